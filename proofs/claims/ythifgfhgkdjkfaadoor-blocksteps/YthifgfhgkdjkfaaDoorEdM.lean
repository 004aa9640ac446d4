/- The document's Step, where functions of its own do it. | The document's Step: triggers and latches. | The document's Step: triggers and latches. -/
import Derived.Test.YthifgfhgkdjkfaaDoorEcW
namespace Go.Proofs.YthifgfhgkdjkfaaDoor
open Go.RowKit
set_option maxRecDepth 100000 in
set_option maxHeartbeats 3200000 in
theorem rstep_1 (cv : Value) (t : Tm) (now : Int) (w : World) (hL : ILst w cv t.ls) (hc : chkE 1 t.ls = 0) (hn : nowOk now = true) (hs : fitB 4 t.s = true) : Calls Tryd.prog 11 #[.int .i64 1, cv, .int .i64 now] w fun e w' => ∃ g cap, e = .returned (.tuple #[.slice (some ⟨g, 0, none⟩) 6 cap, .int .i64 0]) ∧ Rw w' g (tonT now t).ls ∧ w.heap.size ≤ g ∧ 6 ≤ cap ∧ Below w.heap.size w w' := by
  have m1 := rcheck_any 1 _ _ w hL
  rw [hc] at m1
  have hnn : ¬ now < 0 := by unfold nowOk at hn; simp at hn; omega
  have mF := fun W => fitsR_any 4 now W
  rw [now_fit hn] at mF
  have HN := hide hn
  have HL := hide hL
  obtain ⟨ca, cb, coff, ccap, hcv, -, -⟩ := hL
  have LEN : t.ls.length = 6 := rfl
  change cv = .slice ca 6 ccap at hcv
  subst hcv
  clear hn hc
  go_enter Tryd.func11, Tryd.ntmps11
  go_wp2_with (first | (go_at_call 23; refine m1.mono ?_; rintro e w1 ⟨rfl, b1⟩; have B1 := hide b1; clear b1) | (go_at_call 24; refine (mF _).mono ?_; rintro e w2_ ⟨rfl, rfl⟩) | (at_builtin; refine wpList_append_nums (by rfl) _ _ (by rfl) w.heap.size 0 _ _ (by rfl) (own_none2 _ _ B1.out.size) _ t.ls (by rfl) (HL.out.on (blw_alloc B1.out _)) (by rw [LEN]; omega) (Nat.le_trans B1.out.size (by simp)) ?_; intro v' w2 hown hgr; have HB2 := hide (below_app2 (blw_alloc B1.out (.cells #[] 2)) (Nat.le_trans B1.out.size (by simp)) (own_none2 _ _ B1.out.size) hgr); have hw2 : ∃ g cap, v' = .slice (some ⟨g, 0, none⟩) 6 cap ∧ w.heap.size ≤ g ∧ 6 ≤ cap ∧ Rw w2 g t.ls := (Rw.of_owns (n := 6) (l := t.ls) (by rw [LEN] at hown; exact hown) (by decide) LEN.symm); obtain ⟨g, cap, rfl, hg2, hc2, hrw⟩ := hw2; have HG2 := hide hg2; have HR := hide hrw; have HC2 := hide hc2; clear hown hgr hg2 hrw hc2) | (go_at_call 25; refine (rton g cap now t _ (now_fit HN.out) hs HR.out).mono ?_; rintro e w3 ⟨rfl, hr3, hb3⟩; have R3 := hide hr3; have B3 := hide (HB2.out.trans (hb3.mono HG2.out)); clear hr3 hb3))
  go_ret2
  exact ⟨g, cap, rfl, R3.out, HG2.out, HC2.out, B3.out⟩
set_option maxRecDepth 100000 in
set_option maxHeartbeats 3200000 in
theorem rstep_2 (cv : Value) (t : Tm) (now : Int) (w : World) (hL : ILst w cv t.ls) (hc : chkE 2 t.ls = 0) (hn : nowOk now = true) (hs : fitB 4 t.s = true) : Calls Tryd.prog 11 #[.int .i64 2, cv, .int .i64 now] w fun e w' => ∃ g cap, e = .returned (.tuple #[.slice (some ⟨g, 0, none⟩) 6 cap, .int .i64 0]) ∧ Rw w' g (tofT now t).ls ∧ w.heap.size ≤ g ∧ 6 ≤ cap ∧ Below w.heap.size w w' := by
  have m1 := rcheck_any 2 _ _ w hL
  rw [hc] at m1
  have hnn : ¬ now < 0 := by unfold nowOk at hn; simp at hn; omega
  have mF := fun W => fitsR_any 4 now W
  rw [now_fit hn] at mF
  have HN := hide hn
  have HL := hide hL
  obtain ⟨ca, cb, coff, ccap, hcv, -, -⟩ := hL
  have LEN : t.ls.length = 6 := rfl
  change cv = .slice ca 6 ccap at hcv
  subst hcv
  clear hn hc
  go_enter Tryd.func11, Tryd.ntmps11
  go_wp2_with (first | (go_at_call 23; refine m1.mono ?_; rintro e w1 ⟨rfl, b1⟩; have B1 := hide b1; clear b1) | (go_at_call 24; refine (mF _).mono ?_; rintro e w2_ ⟨rfl, rfl⟩) | (at_builtin; refine wpList_append_nums (by rfl) _ _ (by rfl) w.heap.size 0 _ _ (by rfl) (own_none2 _ _ B1.out.size) _ t.ls (by rfl) (HL.out.on (blw_alloc B1.out _)) (by rw [LEN]; omega) (Nat.le_trans B1.out.size (by simp)) ?_; intro v' w2 hown hgr; have HB2 := hide (below_app2 (blw_alloc B1.out (.cells #[] 2)) (Nat.le_trans B1.out.size (by simp)) (own_none2 _ _ B1.out.size) hgr); have hw2 : ∃ g cap, v' = .slice (some ⟨g, 0, none⟩) 6 cap ∧ w.heap.size ≤ g ∧ 6 ≤ cap ∧ Rw w2 g t.ls := (Rw.of_owns (n := 6) (l := t.ls) (by rw [LEN] at hown; exact hown) (by decide) LEN.symm); obtain ⟨g, cap, rfl, hg2, hc2, hrw⟩ := hw2; have HG2 := hide hg2; have HR := hide hrw; have HC2 := hide hc2; clear hown hgr hg2 hrw hc2) | (go_at_call 25; refine (rtof g cap now t _ (now_fit HN.out) hs HR.out).mono ?_; rintro e w3 ⟨rfl, hr3, hb3⟩; have R3 := hide hr3; have B3 := hide (HB2.out.trans (hb3.mono HG2.out)); clear hr3 hb3))
  go_ret2
  exact ⟨g, cap, rfl, R3.out, HG2.out, HC2.out, B3.out⟩
set_option maxRecDepth 100000 in
set_option maxHeartbeats 3200000 in
theorem rstep_3 (cv : Value) (t : Tm) (now : Int) (w : World) (hL : ILst w cv t.ls) (hc : chkE 3 t.ls = 0) (hn : nowOk now = true) (hs : fitB 4 t.s = true) : Calls Tryd.prog 11 #[.int .i64 3, cv, .int .i64 now] w fun e w' => ∃ g cap, e = .returned (.tuple #[.slice (some ⟨g, 0, none⟩) 6 cap, .int .i64 0]) ∧ Rw w' g (tpT now t).ls ∧ w.heap.size ≤ g ∧ 6 ≤ cap ∧ Below w.heap.size w w' := by
  have m1 := rcheck_any 3 _ _ w hL
  rw [hc] at m1
  have hnn : ¬ now < 0 := by unfold nowOk at hn; simp at hn; omega
  have mF := fun W => fitsR_any 4 now W
  rw [now_fit hn] at mF
  have HN := hide hn
  have HL := hide hL
  obtain ⟨ca, cb, coff, ccap, hcv, -, -⟩ := hL
  have LEN : t.ls.length = 6 := rfl
  change cv = .slice ca 6 ccap at hcv
  subst hcv
  clear hn hc
  go_enter Tryd.func11, Tryd.ntmps11
  go_wp2_with (first | (go_at_call 23; refine m1.mono ?_; rintro e w1 ⟨rfl, b1⟩; have B1 := hide b1; clear b1) | (go_at_call 24; refine (mF _).mono ?_; rintro e w2_ ⟨rfl, rfl⟩) | (at_builtin; refine wpList_append_nums (by rfl) _ _ (by rfl) w.heap.size 0 _ _ (by rfl) (own_none2 _ _ B1.out.size) _ t.ls (by rfl) (HL.out.on (blw_alloc B1.out _)) (by rw [LEN]; omega) (Nat.le_trans B1.out.size (by simp)) ?_; intro v' w2 hown hgr; have HB2 := hide (below_app2 (blw_alloc B1.out (.cells #[] 2)) (Nat.le_trans B1.out.size (by simp)) (own_none2 _ _ B1.out.size) hgr); have hw2 : ∃ g cap, v' = .slice (some ⟨g, 0, none⟩) 6 cap ∧ w.heap.size ≤ g ∧ 6 ≤ cap ∧ Rw w2 g t.ls := (Rw.of_owns (n := 6) (l := t.ls) (by rw [LEN] at hown; exact hown) (by decide) LEN.symm); obtain ⟨g, cap, rfl, hg2, hc2, hrw⟩ := hw2; have HG2 := hide hg2; have HR := hide hrw; have HC2 := hide hc2; clear hown hgr hg2 hrw hc2) | (go_at_call 25; refine (rtp g cap now t _ (now_fit HN.out) hs HR.out).mono ?_; rintro e w3 ⟨rfl, hr3, hb3⟩; have R3 := hide hr3; have B3 := hide (HB2.out.trans (hb3.mono HG2.out)); clear hr3 hb3))
  go_ret2
  exact ⟨g, cap, rfl, R3.out, HG2.out, HC2.out, B3.out⟩
set_option maxRecDepth 100000 in
set_option maxHeartbeats 3200000 in
theorem rstep_4 (cv : Value) (t : Cn) (now : Int) (w : World) (hL : ILst w cv t.ls) (hc : chkE 4 t.ls = 0) (hn : nowOk now = true) (hv : -32768 ≤ t.v ∧ t.v ≤ 32767) : Calls Tryd.prog 11 #[.int .i64 4, cv, .int .i64 now] w fun e w' => ∃ g cap, e = .returned (.tuple #[.slice (some ⟨g, 0, none⟩) 6 cap, .int .i64 0]) ∧ Rw w' g (ctuT t).ls ∧ w.heap.size ≤ g ∧ 6 ≤ cap ∧ Below w.heap.size w w' := by
  have m1 := rcheck_any 4 _ _ w hL
  rw [hc] at m1
  have hnn : ¬ now < 0 := by unfold nowOk at hn; simp at hn; omega
  have mF := fun W => fitsR_any 4 now W
  rw [now_fit hn] at mF
  have HN := hide hn
  have HL := hide hL
  obtain ⟨ca, cb, coff, ccap, hcv, -, -⟩ := hL
  have LEN : t.ls.length = 6 := rfl
  change cv = .slice ca 6 ccap at hcv
  subst hcv
  clear hn hc
  go_enter Tryd.func11, Tryd.ntmps11
  go_wp2_with (first | (go_at_call 23; refine m1.mono ?_; rintro e w1 ⟨rfl, b1⟩; have B1 := hide b1; clear b1) | (go_at_call 24; refine (mF _).mono ?_; rintro e w2_ ⟨rfl, rfl⟩) | (at_builtin; refine wpList_append_nums (by rfl) _ _ (by rfl) w.heap.size 0 _ _ (by rfl) (own_none2 _ _ B1.out.size) _ t.ls (by rfl) (HL.out.on (blw_alloc B1.out _)) (by rw [LEN]; omega) (Nat.le_trans B1.out.size (by simp)) ?_; intro v' w2 hown hgr; have HB2 := hide (below_app2 (blw_alloc B1.out (.cells #[] 2)) (Nat.le_trans B1.out.size (by simp)) (own_none2 _ _ B1.out.size) hgr); have hw2 : ∃ g cap, v' = .slice (some ⟨g, 0, none⟩) 6 cap ∧ w.heap.size ≤ g ∧ 6 ≤ cap ∧ Rw w2 g t.ls := (Rw.of_owns (n := 6) (l := t.ls) (by rw [LEN] at hown; exact hown) (by decide) LEN.symm); obtain ⟨g, cap, rfl, hg2, hc2, hrw⟩ := hw2; have HG2 := hide hg2; have HR := hide hrw; have HC2 := hide hc2; clear hown hgr hg2 hrw hc2) | (go_at_call 26; refine (rctu g cap t _ hv HR.out).mono ?_; rintro e w3 ⟨rfl, hr3, hb3⟩; have R3 := hide hr3; have B3 := hide (HB2.out.trans (hb3.mono HG2.out)); clear hr3 hb3))
  go_ret2
  exact ⟨g, cap, rfl, R3.out, HG2.out, HC2.out, B3.out⟩
set_option maxRecDepth 100000 in
set_option maxHeartbeats 3200000 in
theorem rstep_5 (cv : Value) (t : Cn) (now : Int) (w : World) (hL : ILst w cv t.ls) (hc : chkE 5 t.ls = 0) (hn : nowOk now = true) (hv : -32768 ≤ t.v ∧ t.v ≤ 32767) : Calls Tryd.prog 11 #[.int .i64 5, cv, .int .i64 now] w fun e w' => ∃ g cap, e = .returned (.tuple #[.slice (some ⟨g, 0, none⟩) 6 cap, .int .i64 0]) ∧ Rw w' g (ctdT t).ls ∧ w.heap.size ≤ g ∧ 6 ≤ cap ∧ Below w.heap.size w w' := by
  have m1 := rcheck_any 5 _ _ w hL
  rw [hc] at m1
  have hnn : ¬ now < 0 := by unfold nowOk at hn; simp at hn; omega
  have mF := fun W => fitsR_any 4 now W
  rw [now_fit hn] at mF
  have HN := hide hn
  have HL := hide hL
  obtain ⟨ca, cb, coff, ccap, hcv, -, -⟩ := hL
  have LEN : t.ls.length = 6 := rfl
  change cv = .slice ca 6 ccap at hcv
  subst hcv
  clear hn hc
  go_enter Tryd.func11, Tryd.ntmps11
  go_wp2_with (first | (go_at_call 23; refine m1.mono ?_; rintro e w1 ⟨rfl, b1⟩; have B1 := hide b1; clear b1) | (go_at_call 24; refine (mF _).mono ?_; rintro e w2_ ⟨rfl, rfl⟩) | (at_builtin; refine wpList_append_nums (by rfl) _ _ (by rfl) w.heap.size 0 _ _ (by rfl) (own_none2 _ _ B1.out.size) _ t.ls (by rfl) (HL.out.on (blw_alloc B1.out _)) (by rw [LEN]; omega) (Nat.le_trans B1.out.size (by simp)) ?_; intro v' w2 hown hgr; have HB2 := hide (below_app2 (blw_alloc B1.out (.cells #[] 2)) (Nat.le_trans B1.out.size (by simp)) (own_none2 _ _ B1.out.size) hgr); have hw2 : ∃ g cap, v' = .slice (some ⟨g, 0, none⟩) 6 cap ∧ w.heap.size ≤ g ∧ 6 ≤ cap ∧ Rw w2 g t.ls := (Rw.of_owns (n := 6) (l := t.ls) (by rw [LEN] at hown; exact hown) (by decide) LEN.symm); obtain ⟨g, cap, rfl, hg2, hc2, hrw⟩ := hw2; have HG2 := hide hg2; have HR := hide hrw; have HC2 := hide hc2; clear hown hgr hg2 hrw hc2) | (go_at_call 26; refine (rctd g cap t _ hv HR.out).mono ?_; rintro e w3 ⟨rfl, hr3, hb3⟩; have R3 := hide hr3; have B3 := hide (HB2.out.trans (hb3.mono HG2.out)); clear hr3 hb3))
  go_ret2
  exact ⟨g, cap, rfl, R3.out, HG2.out, HC2.out, B3.out⟩
set_option maxRecDepth 100000 in
set_option maxHeartbeats 3200000 in
theorem rstep_10 (cv : Value) (t : Cd) (now : Int) (w : World) (hL : ILst w cv t.ls) (hc : chkE 10 t.ls = 0) (hn : nowOk now = true) (hv : fitB 3 t.v = true) : Calls Tryd.prog 11 #[.int .i64 10, cv, .int .i64 now] w fun e w' => ∃ g cap, e = .returned (.tuple #[.slice (some ⟨g, 0, none⟩) 6 cap, .int .i64 0]) ∧ Rw w' g (cdT t).ls ∧ w.heap.size ≤ g ∧ 6 ≤ cap ∧ Below w.heap.size w w' := by
  have m1 := rcheck_any 10 _ _ w hL
  rw [hc] at m1
  have hnn : ¬ now < 0 := by unfold nowOk at hn; simp at hn; omega
  have mF := fun W => fitsR_any 4 now W
  rw [now_fit hn] at mF
  have HN := hide hn
  have HL := hide hL
  obtain ⟨ca, cb, coff, ccap, hcv, -, -⟩ := hL
  have LEN : t.ls.length = 6 := rfl
  change cv = .slice ca 6 ccap at hcv
  subst hcv
  clear hn hc
  go_enter Tryd.func11, Tryd.ntmps11
  go_wp2_with (first | (go_at_call 23; refine m1.mono ?_; rintro e w1 ⟨rfl, b1⟩; have B1 := hide b1; clear b1) | (go_at_call 24; refine (mF _).mono ?_; rintro e w2_ ⟨rfl, rfl⟩) | (at_builtin; refine wpList_append_nums (by rfl) _ _ (by rfl) w.heap.size 0 _ _ (by rfl) (own_none2 _ _ B1.out.size) _ t.ls (by rfl) (HL.out.on (blw_alloc B1.out _)) (by rw [LEN]; omega) (Nat.le_trans B1.out.size (by simp)) ?_; intro v' w2 hown hgr; have HB2 := hide (below_app2 (blw_alloc B1.out (.cells #[] 2)) (Nat.le_trans B1.out.size (by simp)) (own_none2 _ _ B1.out.size) hgr); have hw2 : ∃ g cap, v' = .slice (some ⟨g, 0, none⟩) 6 cap ∧ w.heap.size ≤ g ∧ 6 ≤ cap ∧ Rw w2 g t.ls := (Rw.of_owns (n := 6) (l := t.ls) (by rw [LEN] at hown; exact hown) (by decide) LEN.symm); obtain ⟨g, cap, rfl, hg2, hc2, hrw⟩ := hw2; have HG2 := hide hg2; have HR := hide hrw; have HC2 := hide hc2; clear hown hgr hg2 hrw hc2) | (go_at_call 28; refine (rcoder g cap t _ hv HR.out).mono ?_; rintro e w3 ⟨rfl, hr3, hb3⟩; have R3 := hide hr3; have B3 := hide (HB2.out.trans (hb3.mono HG2.out)); clear hr3 hb3))
  go_ret2
  exact ⟨g, cap, rfl, R3.out, HG2.out, HC2.out, B3.out⟩
end Go.Proofs.YthifgfhgkdjkfaaDoor
namespace Go.Proofs.YthifgfhgkdjkfaaDoor
open Go.RowKit
set_option maxRecDepth 100000 in
set_option maxHeartbeats 3200000 in
theorem rstep_6 (cv : Value) (a b d : Bool) (now : Int) (w : World) (hL : ILst w cv [flagN a, flagN b, flagN d]) (hc : chkE 6 [flagN a, flagN b, flagN d] = 0) (hn : nowOk now = true) : Calls Tryd.prog 11 #[.int .i64 6, cv, .int .i64 now] w fun e w' => ∃ g cap, e = .returned (.tuple #[.slice (some ⟨g, 0, none⟩) 3 cap, .int .i64 0]) ∧ Rw w' g (rT ⟨a, b, d⟩).ls ∧ w.heap.size ≤ g ∧ 3 ≤ cap ∧ Below w.heap.size w w' := by
  have m1 := rcheck_any 6 _ _ w hL
  rw [hc] at m1
  have hnn : ¬ now < 0 := by unfold nowOk at hn; simp at hn; omega
  have mF := fun W => fitsR_any 4 now W
  rw [now_fit hn] at mF
  have HN := hide hn
  have HL := hide hL
  obtain ⟨ca, cb, coff, ccap, hcv, -, -⟩ := hL
  change cv = .slice ca 3 ccap at hcv
  subst hcv
  have mf := flag12
  clear hn hc
  cases a <;> cases b <;> cases d
  · have LEN : ([0, 0, 0] : List Int).length = 3 := rfl
    go_enter Tryd.func11, Tryd.ntmps11
    go_wp2_with (first | (go_at_call 23; refine m1.mono ?_; rintro e w1 ⟨rfl, b1⟩; have B1 := hide b1; clear b1) | (go_at_call 24; refine (mF _).mono ?_; rintro e w2_ ⟨rfl, rfl⟩) | (at_builtin; refine wpList_append_nums (by rfl) _ _ (by rfl) w.heap.size 0 _ _ (by rfl) (own_none2 _ _ B1.out.size) _ [0, 0, 0] (by rfl) (HL.out.on (blw_alloc B1.out _)) (by rw [LEN]; omega) (Nat.le_trans B1.out.size (by simp)) ?_; intro v' w2 hown hgr; have HB2 := hide (below_app2 (blw_alloc B1.out (.cells #[] 2)) (Nat.le_trans B1.out.size (by simp)) (own_none2 _ _ B1.out.size) hgr); have hw2 : ∃ g cap, v' = .slice (some ⟨g, 0, none⟩) 3 cap ∧ w.heap.size ≤ g ∧ 3 ≤ cap ∧ Rw w2 g [0, 0, 0] := (Rw.of_owns (n := 3) (l := [0, 0, 0]) (by rw [LEN] at hown; exact hown) (by decide) LEN.symm); obtain ⟨g, cap, rfl, hg2, hc2, hrw⟩ := hw2; have HG2 := hide hg2; have HR := hide hrw; have HC2 := hide hc2; clear hown hgr hg2 hrw hc2; have c0 := HR.out.cell 0 (x := 0) rfl; have c1 := HR.out.cell 1 (x := 0) rfl; have c2 := HR.out.cell 2 (x := 0) rfl; have f1 := HR.out.fr 1; have f2 := HR.out.fr 2) | (go_at_call 27; refine (mf _ _).mono ?_; rintro e w3_ ⟨rfl, rfl⟩))
    go_ret2
    refine ⟨g, cap, rfl, ?_, HG2.out, HC2.out, ?_⟩
    · (repeat (first | exact HR.out | apply Rw.set)) <;> rfl
    · repeat (first | exact HB2.out | refine Below.setCell ?_ HG2.out _)
  · have LEN : ([0, 0, 1] : List Int).length = 3 := rfl
    go_enter Tryd.func11, Tryd.ntmps11
    go_wp2_with (first | (go_at_call 23; refine m1.mono ?_; rintro e w1 ⟨rfl, b1⟩; have B1 := hide b1; clear b1) | (go_at_call 24; refine (mF _).mono ?_; rintro e w2_ ⟨rfl, rfl⟩) | (at_builtin; refine wpList_append_nums (by rfl) _ _ (by rfl) w.heap.size 0 _ _ (by rfl) (own_none2 _ _ B1.out.size) _ [0, 0, 1] (by rfl) (HL.out.on (blw_alloc B1.out _)) (by rw [LEN]; omega) (Nat.le_trans B1.out.size (by simp)) ?_; intro v' w2 hown hgr; have HB2 := hide (below_app2 (blw_alloc B1.out (.cells #[] 2)) (Nat.le_trans B1.out.size (by simp)) (own_none2 _ _ B1.out.size) hgr); have hw2 : ∃ g cap, v' = .slice (some ⟨g, 0, none⟩) 3 cap ∧ w.heap.size ≤ g ∧ 3 ≤ cap ∧ Rw w2 g [0, 0, 1] := (Rw.of_owns (n := 3) (l := [0, 0, 1]) (by rw [LEN] at hown; exact hown) (by decide) LEN.symm); obtain ⟨g, cap, rfl, hg2, hc2, hrw⟩ := hw2; have HG2 := hide hg2; have HR := hide hrw; have HC2 := hide hc2; clear hown hgr hg2 hrw hc2; have c0 := HR.out.cell 0 (x := 0) rfl; have c1 := HR.out.cell 1 (x := 0) rfl; have c2 := HR.out.cell 2 (x := 1) rfl; have f1 := HR.out.fr 1; have f2 := HR.out.fr 2) | (go_at_call 27; refine (mf _ _).mono ?_; rintro e w3_ ⟨rfl, rfl⟩))
    go_ret2
    refine ⟨g, cap, rfl, ?_, HG2.out, HC2.out, ?_⟩
    · (repeat (first | exact HR.out | apply Rw.set)) <;> rfl
    · repeat (first | exact HB2.out | refine Below.setCell ?_ HG2.out _)
  · have LEN : ([0, 1, 0] : List Int).length = 3 := rfl
    go_enter Tryd.func11, Tryd.ntmps11
    go_wp2_with (first | (go_at_call 23; refine m1.mono ?_; rintro e w1 ⟨rfl, b1⟩; have B1 := hide b1; clear b1) | (go_at_call 24; refine (mF _).mono ?_; rintro e w2_ ⟨rfl, rfl⟩) | (at_builtin; refine wpList_append_nums (by rfl) _ _ (by rfl) w.heap.size 0 _ _ (by rfl) (own_none2 _ _ B1.out.size) _ [0, 1, 0] (by rfl) (HL.out.on (blw_alloc B1.out _)) (by rw [LEN]; omega) (Nat.le_trans B1.out.size (by simp)) ?_; intro v' w2 hown hgr; have HB2 := hide (below_app2 (blw_alloc B1.out (.cells #[] 2)) (Nat.le_trans B1.out.size (by simp)) (own_none2 _ _ B1.out.size) hgr); have hw2 : ∃ g cap, v' = .slice (some ⟨g, 0, none⟩) 3 cap ∧ w.heap.size ≤ g ∧ 3 ≤ cap ∧ Rw w2 g [0, 1, 0] := (Rw.of_owns (n := 3) (l := [0, 1, 0]) (by rw [LEN] at hown; exact hown) (by decide) LEN.symm); obtain ⟨g, cap, rfl, hg2, hc2, hrw⟩ := hw2; have HG2 := hide hg2; have HR := hide hrw; have HC2 := hide hc2; clear hown hgr hg2 hrw hc2; have c0 := HR.out.cell 0 (x := 0) rfl; have c1 := HR.out.cell 1 (x := 1) rfl; have c2 := HR.out.cell 2 (x := 0) rfl; have f1 := HR.out.fr 1; have f2 := HR.out.fr 2) | (go_at_call 27; refine (mf _ _).mono ?_; rintro e w3_ ⟨rfl, rfl⟩))
    go_ret2
    refine ⟨g, cap, rfl, ?_, HG2.out, HC2.out, ?_⟩
    · (repeat (first | exact HR.out | apply Rw.set)) <;> rfl
    · repeat (first | exact HB2.out | refine Below.setCell ?_ HG2.out _)
  · have LEN : ([0, 1, 1] : List Int).length = 3 := rfl
    go_enter Tryd.func11, Tryd.ntmps11
    go_wp2_with (first | (go_at_call 23; refine m1.mono ?_; rintro e w1 ⟨rfl, b1⟩; have B1 := hide b1; clear b1) | (go_at_call 24; refine (mF _).mono ?_; rintro e w2_ ⟨rfl, rfl⟩) | (at_builtin; refine wpList_append_nums (by rfl) _ _ (by rfl) w.heap.size 0 _ _ (by rfl) (own_none2 _ _ B1.out.size) _ [0, 1, 1] (by rfl) (HL.out.on (blw_alloc B1.out _)) (by rw [LEN]; omega) (Nat.le_trans B1.out.size (by simp)) ?_; intro v' w2 hown hgr; have HB2 := hide (below_app2 (blw_alloc B1.out (.cells #[] 2)) (Nat.le_trans B1.out.size (by simp)) (own_none2 _ _ B1.out.size) hgr); have hw2 : ∃ g cap, v' = .slice (some ⟨g, 0, none⟩) 3 cap ∧ w.heap.size ≤ g ∧ 3 ≤ cap ∧ Rw w2 g [0, 1, 1] := (Rw.of_owns (n := 3) (l := [0, 1, 1]) (by rw [LEN] at hown; exact hown) (by decide) LEN.symm); obtain ⟨g, cap, rfl, hg2, hc2, hrw⟩ := hw2; have HG2 := hide hg2; have HR := hide hrw; have HC2 := hide hc2; clear hown hgr hg2 hrw hc2; have c0 := HR.out.cell 0 (x := 0) rfl; have c1 := HR.out.cell 1 (x := 1) rfl; have c2 := HR.out.cell 2 (x := 1) rfl; have f1 := HR.out.fr 1; have f2 := HR.out.fr 2) | (go_at_call 27; refine (mf _ _).mono ?_; rintro e w3_ ⟨rfl, rfl⟩))
    go_ret2
    refine ⟨g, cap, rfl, ?_, HG2.out, HC2.out, ?_⟩
    · (repeat (first | exact HR.out | apply Rw.set)) <;> rfl
    · repeat (first | exact HB2.out | refine Below.setCell ?_ HG2.out _)
  · have LEN : ([1, 0, 0] : List Int).length = 3 := rfl
    go_enter Tryd.func11, Tryd.ntmps11
    go_wp2_with (first | (go_at_call 23; refine m1.mono ?_; rintro e w1 ⟨rfl, b1⟩; have B1 := hide b1; clear b1) | (go_at_call 24; refine (mF _).mono ?_; rintro e w2_ ⟨rfl, rfl⟩) | (at_builtin; refine wpList_append_nums (by rfl) _ _ (by rfl) w.heap.size 0 _ _ (by rfl) (own_none2 _ _ B1.out.size) _ [1, 0, 0] (by rfl) (HL.out.on (blw_alloc B1.out _)) (by rw [LEN]; omega) (Nat.le_trans B1.out.size (by simp)) ?_; intro v' w2 hown hgr; have HB2 := hide (below_app2 (blw_alloc B1.out (.cells #[] 2)) (Nat.le_trans B1.out.size (by simp)) (own_none2 _ _ B1.out.size) hgr); have hw2 : ∃ g cap, v' = .slice (some ⟨g, 0, none⟩) 3 cap ∧ w.heap.size ≤ g ∧ 3 ≤ cap ∧ Rw w2 g [1, 0, 0] := (Rw.of_owns (n := 3) (l := [1, 0, 0]) (by rw [LEN] at hown; exact hown) (by decide) LEN.symm); obtain ⟨g, cap, rfl, hg2, hc2, hrw⟩ := hw2; have HG2 := hide hg2; have HR := hide hrw; have HC2 := hide hc2; clear hown hgr hg2 hrw hc2; have c0 := HR.out.cell 0 (x := 1) rfl; have c1 := HR.out.cell 1 (x := 0) rfl; have c2 := HR.out.cell 2 (x := 0) rfl; have f1 := HR.out.fr 1; have f2 := HR.out.fr 2) | (go_at_call 27; refine (mf _ _).mono ?_; rintro e w3_ ⟨rfl, rfl⟩))
    go_ret2
    refine ⟨g, cap, rfl, ?_, HG2.out, HC2.out, ?_⟩
    · (repeat (first | exact HR.out | apply Rw.set)) <;> rfl
    · repeat (first | exact HB2.out | refine Below.setCell ?_ HG2.out _)
  · have LEN : ([1, 0, 1] : List Int).length = 3 := rfl
    go_enter Tryd.func11, Tryd.ntmps11
    go_wp2_with (first | (go_at_call 23; refine m1.mono ?_; rintro e w1 ⟨rfl, b1⟩; have B1 := hide b1; clear b1) | (go_at_call 24; refine (mF _).mono ?_; rintro e w2_ ⟨rfl, rfl⟩) | (at_builtin; refine wpList_append_nums (by rfl) _ _ (by rfl) w.heap.size 0 _ _ (by rfl) (own_none2 _ _ B1.out.size) _ [1, 0, 1] (by rfl) (HL.out.on (blw_alloc B1.out _)) (by rw [LEN]; omega) (Nat.le_trans B1.out.size (by simp)) ?_; intro v' w2 hown hgr; have HB2 := hide (below_app2 (blw_alloc B1.out (.cells #[] 2)) (Nat.le_trans B1.out.size (by simp)) (own_none2 _ _ B1.out.size) hgr); have hw2 : ∃ g cap, v' = .slice (some ⟨g, 0, none⟩) 3 cap ∧ w.heap.size ≤ g ∧ 3 ≤ cap ∧ Rw w2 g [1, 0, 1] := (Rw.of_owns (n := 3) (l := [1, 0, 1]) (by rw [LEN] at hown; exact hown) (by decide) LEN.symm); obtain ⟨g, cap, rfl, hg2, hc2, hrw⟩ := hw2; have HG2 := hide hg2; have HR := hide hrw; have HC2 := hide hc2; clear hown hgr hg2 hrw hc2; have c0 := HR.out.cell 0 (x := 1) rfl; have c1 := HR.out.cell 1 (x := 0) rfl; have c2 := HR.out.cell 2 (x := 1) rfl; have f1 := HR.out.fr 1; have f2 := HR.out.fr 2) | (go_at_call 27; refine (mf _ _).mono ?_; rintro e w3_ ⟨rfl, rfl⟩))
    go_ret2
    refine ⟨g, cap, rfl, ?_, HG2.out, HC2.out, ?_⟩
    · (repeat (first | exact HR.out | apply Rw.set)) <;> rfl
    · repeat (first | exact HB2.out | refine Below.setCell ?_ HG2.out _)
  · have LEN : ([1, 1, 0] : List Int).length = 3 := rfl
    go_enter Tryd.func11, Tryd.ntmps11
    go_wp2_with (first | (go_at_call 23; refine m1.mono ?_; rintro e w1 ⟨rfl, b1⟩; have B1 := hide b1; clear b1) | (go_at_call 24; refine (mF _).mono ?_; rintro e w2_ ⟨rfl, rfl⟩) | (at_builtin; refine wpList_append_nums (by rfl) _ _ (by rfl) w.heap.size 0 _ _ (by rfl) (own_none2 _ _ B1.out.size) _ [1, 1, 0] (by rfl) (HL.out.on (blw_alloc B1.out _)) (by rw [LEN]; omega) (Nat.le_trans B1.out.size (by simp)) ?_; intro v' w2 hown hgr; have HB2 := hide (below_app2 (blw_alloc B1.out (.cells #[] 2)) (Nat.le_trans B1.out.size (by simp)) (own_none2 _ _ B1.out.size) hgr); have hw2 : ∃ g cap, v' = .slice (some ⟨g, 0, none⟩) 3 cap ∧ w.heap.size ≤ g ∧ 3 ≤ cap ∧ Rw w2 g [1, 1, 0] := (Rw.of_owns (n := 3) (l := [1, 1, 0]) (by rw [LEN] at hown; exact hown) (by decide) LEN.symm); obtain ⟨g, cap, rfl, hg2, hc2, hrw⟩ := hw2; have HG2 := hide hg2; have HR := hide hrw; have HC2 := hide hc2; clear hown hgr hg2 hrw hc2; have c0 := HR.out.cell 0 (x := 1) rfl; have c1 := HR.out.cell 1 (x := 1) rfl; have c2 := HR.out.cell 2 (x := 0) rfl; have f1 := HR.out.fr 1; have f2 := HR.out.fr 2) | (go_at_call 27; refine (mf _ _).mono ?_; rintro e w3_ ⟨rfl, rfl⟩))
    go_ret2
    refine ⟨g, cap, rfl, ?_, HG2.out, HC2.out, ?_⟩
    · (repeat (first | exact HR.out | apply Rw.set)) <;> rfl
    · repeat (first | exact HB2.out | refine Below.setCell ?_ HG2.out _)
  · have LEN : ([1, 1, 1] : List Int).length = 3 := rfl
    go_enter Tryd.func11, Tryd.ntmps11
    go_wp2_with (first | (go_at_call 23; refine m1.mono ?_; rintro e w1 ⟨rfl, b1⟩; have B1 := hide b1; clear b1) | (go_at_call 24; refine (mF _).mono ?_; rintro e w2_ ⟨rfl, rfl⟩) | (at_builtin; refine wpList_append_nums (by rfl) _ _ (by rfl) w.heap.size 0 _ _ (by rfl) (own_none2 _ _ B1.out.size) _ [1, 1, 1] (by rfl) (HL.out.on (blw_alloc B1.out _)) (by rw [LEN]; omega) (Nat.le_trans B1.out.size (by simp)) ?_; intro v' w2 hown hgr; have HB2 := hide (below_app2 (blw_alloc B1.out (.cells #[] 2)) (Nat.le_trans B1.out.size (by simp)) (own_none2 _ _ B1.out.size) hgr); have hw2 : ∃ g cap, v' = .slice (some ⟨g, 0, none⟩) 3 cap ∧ w.heap.size ≤ g ∧ 3 ≤ cap ∧ Rw w2 g [1, 1, 1] := (Rw.of_owns (n := 3) (l := [1, 1, 1]) (by rw [LEN] at hown; exact hown) (by decide) LEN.symm); obtain ⟨g, cap, rfl, hg2, hc2, hrw⟩ := hw2; have HG2 := hide hg2; have HR := hide hrw; have HC2 := hide hc2; clear hown hgr hg2 hrw hc2; have c0 := HR.out.cell 0 (x := 1) rfl; have c1 := HR.out.cell 1 (x := 1) rfl; have c2 := HR.out.cell 2 (x := 1) rfl; have f1 := HR.out.fr 1; have f2 := HR.out.fr 2) | (go_at_call 27; refine (mf _ _).mono ?_; rintro e w3_ ⟨rfl, rfl⟩))
    go_ret2
    refine ⟨g, cap, rfl, ?_, HG2.out, HC2.out, ?_⟩
    · (repeat (first | exact HR.out | apply Rw.set)) <;> rfl
    · repeat (first | exact HB2.out | refine Below.setCell ?_ HG2.out _)
set_option maxRecDepth 100000 in
set_option maxHeartbeats 3200000 in
theorem rstep_7 (cv : Value) (a b d : Bool) (now : Int) (w : World) (hL : ILst w cv [flagN a, flagN b, flagN d]) (hc : chkE 7 [flagN a, flagN b, flagN d] = 0) (hn : nowOk now = true) : Calls Tryd.prog 11 #[.int .i64 7, cv, .int .i64 now] w fun e w' => ∃ g cap, e = .returned (.tuple #[.slice (some ⟨g, 0, none⟩) 3 cap, .int .i64 0]) ∧ Rw w' g (fT ⟨a, b, d⟩).ls ∧ w.heap.size ≤ g ∧ 3 ≤ cap ∧ Below w.heap.size w w' := by
  have m1 := rcheck_any 7 _ _ w hL
  rw [hc] at m1
  have hnn : ¬ now < 0 := by unfold nowOk at hn; simp at hn; omega
  have mF := fun W => fitsR_any 4 now W
  rw [now_fit hn] at mF
  have HN := hide hn
  have HL := hide hL
  obtain ⟨ca, cb, coff, ccap, hcv, -, -⟩ := hL
  change cv = .slice ca 3 ccap at hcv
  subst hcv
  have mf := flag12
  clear hn hc
  cases a <;> cases b <;> cases d
  · have LEN : ([0, 0, 0] : List Int).length = 3 := rfl
    go_enter Tryd.func11, Tryd.ntmps11
    go_wp2_with (first | (go_at_call 23; refine m1.mono ?_; rintro e w1 ⟨rfl, b1⟩; have B1 := hide b1; clear b1) | (go_at_call 24; refine (mF _).mono ?_; rintro e w2_ ⟨rfl, rfl⟩) | (at_builtin; refine wpList_append_nums (by rfl) _ _ (by rfl) w.heap.size 0 _ _ (by rfl) (own_none2 _ _ B1.out.size) _ [0, 0, 0] (by rfl) (HL.out.on (blw_alloc B1.out _)) (by rw [LEN]; omega) (Nat.le_trans B1.out.size (by simp)) ?_; intro v' w2 hown hgr; have HB2 := hide (below_app2 (blw_alloc B1.out (.cells #[] 2)) (Nat.le_trans B1.out.size (by simp)) (own_none2 _ _ B1.out.size) hgr); have hw2 : ∃ g cap, v' = .slice (some ⟨g, 0, none⟩) 3 cap ∧ w.heap.size ≤ g ∧ 3 ≤ cap ∧ Rw w2 g [0, 0, 0] := (Rw.of_owns (n := 3) (l := [0, 0, 0]) (by rw [LEN] at hown; exact hown) (by decide) LEN.symm); obtain ⟨g, cap, rfl, hg2, hc2, hrw⟩ := hw2; have HG2 := hide hg2; have HR := hide hrw; have HC2 := hide hc2; clear hown hgr hg2 hrw hc2; have c0 := HR.out.cell 0 (x := 0) rfl; have c1 := HR.out.cell 1 (x := 0) rfl; have c2 := HR.out.cell 2 (x := 0) rfl; have f1 := HR.out.fr 1; have f2 := HR.out.fr 2) | (go_at_call 27; refine (mf _ _).mono ?_; rintro e w3_ ⟨rfl, rfl⟩))
    go_ret2
    refine ⟨g, cap, rfl, ?_, HG2.out, HC2.out, ?_⟩
    · (repeat (first | exact HR.out | apply Rw.set)) <;> rfl
    · repeat (first | exact HB2.out | refine Below.setCell ?_ HG2.out _)
  · have LEN : ([0, 0, 1] : List Int).length = 3 := rfl
    go_enter Tryd.func11, Tryd.ntmps11
    go_wp2_with (first | (go_at_call 23; refine m1.mono ?_; rintro e w1 ⟨rfl, b1⟩; have B1 := hide b1; clear b1) | (go_at_call 24; refine (mF _).mono ?_; rintro e w2_ ⟨rfl, rfl⟩) | (at_builtin; refine wpList_append_nums (by rfl) _ _ (by rfl) w.heap.size 0 _ _ (by rfl) (own_none2 _ _ B1.out.size) _ [0, 0, 1] (by rfl) (HL.out.on (blw_alloc B1.out _)) (by rw [LEN]; omega) (Nat.le_trans B1.out.size (by simp)) ?_; intro v' w2 hown hgr; have HB2 := hide (below_app2 (blw_alloc B1.out (.cells #[] 2)) (Nat.le_trans B1.out.size (by simp)) (own_none2 _ _ B1.out.size) hgr); have hw2 : ∃ g cap, v' = .slice (some ⟨g, 0, none⟩) 3 cap ∧ w.heap.size ≤ g ∧ 3 ≤ cap ∧ Rw w2 g [0, 0, 1] := (Rw.of_owns (n := 3) (l := [0, 0, 1]) (by rw [LEN] at hown; exact hown) (by decide) LEN.symm); obtain ⟨g, cap, rfl, hg2, hc2, hrw⟩ := hw2; have HG2 := hide hg2; have HR := hide hrw; have HC2 := hide hc2; clear hown hgr hg2 hrw hc2; have c0 := HR.out.cell 0 (x := 0) rfl; have c1 := HR.out.cell 1 (x := 0) rfl; have c2 := HR.out.cell 2 (x := 1) rfl; have f1 := HR.out.fr 1; have f2 := HR.out.fr 2) | (go_at_call 27; refine (mf _ _).mono ?_; rintro e w3_ ⟨rfl, rfl⟩))
    go_ret2
    refine ⟨g, cap, rfl, ?_, HG2.out, HC2.out, ?_⟩
    · (repeat (first | exact HR.out | apply Rw.set)) <;> rfl
    · repeat (first | exact HB2.out | refine Below.setCell ?_ HG2.out _)
  · have LEN : ([0, 1, 0] : List Int).length = 3 := rfl
    go_enter Tryd.func11, Tryd.ntmps11
    go_wp2_with (first | (go_at_call 23; refine m1.mono ?_; rintro e w1 ⟨rfl, b1⟩; have B1 := hide b1; clear b1) | (go_at_call 24; refine (mF _).mono ?_; rintro e w2_ ⟨rfl, rfl⟩) | (at_builtin; refine wpList_append_nums (by rfl) _ _ (by rfl) w.heap.size 0 _ _ (by rfl) (own_none2 _ _ B1.out.size) _ [0, 1, 0] (by rfl) (HL.out.on (blw_alloc B1.out _)) (by rw [LEN]; omega) (Nat.le_trans B1.out.size (by simp)) ?_; intro v' w2 hown hgr; have HB2 := hide (below_app2 (blw_alloc B1.out (.cells #[] 2)) (Nat.le_trans B1.out.size (by simp)) (own_none2 _ _ B1.out.size) hgr); have hw2 : ∃ g cap, v' = .slice (some ⟨g, 0, none⟩) 3 cap ∧ w.heap.size ≤ g ∧ 3 ≤ cap ∧ Rw w2 g [0, 1, 0] := (Rw.of_owns (n := 3) (l := [0, 1, 0]) (by rw [LEN] at hown; exact hown) (by decide) LEN.symm); obtain ⟨g, cap, rfl, hg2, hc2, hrw⟩ := hw2; have HG2 := hide hg2; have HR := hide hrw; have HC2 := hide hc2; clear hown hgr hg2 hrw hc2; have c0 := HR.out.cell 0 (x := 0) rfl; have c1 := HR.out.cell 1 (x := 1) rfl; have c2 := HR.out.cell 2 (x := 0) rfl; have f1 := HR.out.fr 1; have f2 := HR.out.fr 2) | (go_at_call 27; refine (mf _ _).mono ?_; rintro e w3_ ⟨rfl, rfl⟩))
    go_ret2
    refine ⟨g, cap, rfl, ?_, HG2.out, HC2.out, ?_⟩
    · (repeat (first | exact HR.out | apply Rw.set)) <;> rfl
    · repeat (first | exact HB2.out | refine Below.setCell ?_ HG2.out _)
  · have LEN : ([0, 1, 1] : List Int).length = 3 := rfl
    go_enter Tryd.func11, Tryd.ntmps11
    go_wp2_with (first | (go_at_call 23; refine m1.mono ?_; rintro e w1 ⟨rfl, b1⟩; have B1 := hide b1; clear b1) | (go_at_call 24; refine (mF _).mono ?_; rintro e w2_ ⟨rfl, rfl⟩) | (at_builtin; refine wpList_append_nums (by rfl) _ _ (by rfl) w.heap.size 0 _ _ (by rfl) (own_none2 _ _ B1.out.size) _ [0, 1, 1] (by rfl) (HL.out.on (blw_alloc B1.out _)) (by rw [LEN]; omega) (Nat.le_trans B1.out.size (by simp)) ?_; intro v' w2 hown hgr; have HB2 := hide (below_app2 (blw_alloc B1.out (.cells #[] 2)) (Nat.le_trans B1.out.size (by simp)) (own_none2 _ _ B1.out.size) hgr); have hw2 : ∃ g cap, v' = .slice (some ⟨g, 0, none⟩) 3 cap ∧ w.heap.size ≤ g ∧ 3 ≤ cap ∧ Rw w2 g [0, 1, 1] := (Rw.of_owns (n := 3) (l := [0, 1, 1]) (by rw [LEN] at hown; exact hown) (by decide) LEN.symm); obtain ⟨g, cap, rfl, hg2, hc2, hrw⟩ := hw2; have HG2 := hide hg2; have HR := hide hrw; have HC2 := hide hc2; clear hown hgr hg2 hrw hc2; have c0 := HR.out.cell 0 (x := 0) rfl; have c1 := HR.out.cell 1 (x := 1) rfl; have c2 := HR.out.cell 2 (x := 1) rfl; have f1 := HR.out.fr 1; have f2 := HR.out.fr 2) | (go_at_call 27; refine (mf _ _).mono ?_; rintro e w3_ ⟨rfl, rfl⟩))
    go_ret2
    refine ⟨g, cap, rfl, ?_, HG2.out, HC2.out, ?_⟩
    · (repeat (first | exact HR.out | apply Rw.set)) <;> rfl
    · repeat (first | exact HB2.out | refine Below.setCell ?_ HG2.out _)
  · have LEN : ([1, 0, 0] : List Int).length = 3 := rfl
    go_enter Tryd.func11, Tryd.ntmps11
    go_wp2_with (first | (go_at_call 23; refine m1.mono ?_; rintro e w1 ⟨rfl, b1⟩; have B1 := hide b1; clear b1) | (go_at_call 24; refine (mF _).mono ?_; rintro e w2_ ⟨rfl, rfl⟩) | (at_builtin; refine wpList_append_nums (by rfl) _ _ (by rfl) w.heap.size 0 _ _ (by rfl) (own_none2 _ _ B1.out.size) _ [1, 0, 0] (by rfl) (HL.out.on (blw_alloc B1.out _)) (by rw [LEN]; omega) (Nat.le_trans B1.out.size (by simp)) ?_; intro v' w2 hown hgr; have HB2 := hide (below_app2 (blw_alloc B1.out (.cells #[] 2)) (Nat.le_trans B1.out.size (by simp)) (own_none2 _ _ B1.out.size) hgr); have hw2 : ∃ g cap, v' = .slice (some ⟨g, 0, none⟩) 3 cap ∧ w.heap.size ≤ g ∧ 3 ≤ cap ∧ Rw w2 g [1, 0, 0] := (Rw.of_owns (n := 3) (l := [1, 0, 0]) (by rw [LEN] at hown; exact hown) (by decide) LEN.symm); obtain ⟨g, cap, rfl, hg2, hc2, hrw⟩ := hw2; have HG2 := hide hg2; have HR := hide hrw; have HC2 := hide hc2; clear hown hgr hg2 hrw hc2; have c0 := HR.out.cell 0 (x := 1) rfl; have c1 := HR.out.cell 1 (x := 0) rfl; have c2 := HR.out.cell 2 (x := 0) rfl; have f1 := HR.out.fr 1; have f2 := HR.out.fr 2) | (go_at_call 27; refine (mf _ _).mono ?_; rintro e w3_ ⟨rfl, rfl⟩))
    go_ret2
    refine ⟨g, cap, rfl, ?_, HG2.out, HC2.out, ?_⟩
    · (repeat (first | exact HR.out | apply Rw.set)) <;> rfl
    · repeat (first | exact HB2.out | refine Below.setCell ?_ HG2.out _)
  · have LEN : ([1, 0, 1] : List Int).length = 3 := rfl
    go_enter Tryd.func11, Tryd.ntmps11
    go_wp2_with (first | (go_at_call 23; refine m1.mono ?_; rintro e w1 ⟨rfl, b1⟩; have B1 := hide b1; clear b1) | (go_at_call 24; refine (mF _).mono ?_; rintro e w2_ ⟨rfl, rfl⟩) | (at_builtin; refine wpList_append_nums (by rfl) _ _ (by rfl) w.heap.size 0 _ _ (by rfl) (own_none2 _ _ B1.out.size) _ [1, 0, 1] (by rfl) (HL.out.on (blw_alloc B1.out _)) (by rw [LEN]; omega) (Nat.le_trans B1.out.size (by simp)) ?_; intro v' w2 hown hgr; have HB2 := hide (below_app2 (blw_alloc B1.out (.cells #[] 2)) (Nat.le_trans B1.out.size (by simp)) (own_none2 _ _ B1.out.size) hgr); have hw2 : ∃ g cap, v' = .slice (some ⟨g, 0, none⟩) 3 cap ∧ w.heap.size ≤ g ∧ 3 ≤ cap ∧ Rw w2 g [1, 0, 1] := (Rw.of_owns (n := 3) (l := [1, 0, 1]) (by rw [LEN] at hown; exact hown) (by decide) LEN.symm); obtain ⟨g, cap, rfl, hg2, hc2, hrw⟩ := hw2; have HG2 := hide hg2; have HR := hide hrw; have HC2 := hide hc2; clear hown hgr hg2 hrw hc2; have c0 := HR.out.cell 0 (x := 1) rfl; have c1 := HR.out.cell 1 (x := 0) rfl; have c2 := HR.out.cell 2 (x := 1) rfl; have f1 := HR.out.fr 1; have f2 := HR.out.fr 2) | (go_at_call 27; refine (mf _ _).mono ?_; rintro e w3_ ⟨rfl, rfl⟩))
    go_ret2
    refine ⟨g, cap, rfl, ?_, HG2.out, HC2.out, ?_⟩
    · (repeat (first | exact HR.out | apply Rw.set)) <;> rfl
    · repeat (first | exact HB2.out | refine Below.setCell ?_ HG2.out _)
  · have LEN : ([1, 1, 0] : List Int).length = 3 := rfl
    go_enter Tryd.func11, Tryd.ntmps11
    go_wp2_with (first | (go_at_call 23; refine m1.mono ?_; rintro e w1 ⟨rfl, b1⟩; have B1 := hide b1; clear b1) | (go_at_call 24; refine (mF _).mono ?_; rintro e w2_ ⟨rfl, rfl⟩) | (at_builtin; refine wpList_append_nums (by rfl) _ _ (by rfl) w.heap.size 0 _ _ (by rfl) (own_none2 _ _ B1.out.size) _ [1, 1, 0] (by rfl) (HL.out.on (blw_alloc B1.out _)) (by rw [LEN]; omega) (Nat.le_trans B1.out.size (by simp)) ?_; intro v' w2 hown hgr; have HB2 := hide (below_app2 (blw_alloc B1.out (.cells #[] 2)) (Nat.le_trans B1.out.size (by simp)) (own_none2 _ _ B1.out.size) hgr); have hw2 : ∃ g cap, v' = .slice (some ⟨g, 0, none⟩) 3 cap ∧ w.heap.size ≤ g ∧ 3 ≤ cap ∧ Rw w2 g [1, 1, 0] := (Rw.of_owns (n := 3) (l := [1, 1, 0]) (by rw [LEN] at hown; exact hown) (by decide) LEN.symm); obtain ⟨g, cap, rfl, hg2, hc2, hrw⟩ := hw2; have HG2 := hide hg2; have HR := hide hrw; have HC2 := hide hc2; clear hown hgr hg2 hrw hc2; have c0 := HR.out.cell 0 (x := 1) rfl; have c1 := HR.out.cell 1 (x := 1) rfl; have c2 := HR.out.cell 2 (x := 0) rfl; have f1 := HR.out.fr 1; have f2 := HR.out.fr 2) | (go_at_call 27; refine (mf _ _).mono ?_; rintro e w3_ ⟨rfl, rfl⟩))
    go_ret2
    refine ⟨g, cap, rfl, ?_, HG2.out, HC2.out, ?_⟩
    · (repeat (first | exact HR.out | apply Rw.set)) <;> rfl
    · repeat (first | exact HB2.out | refine Below.setCell ?_ HG2.out _)
  · have LEN : ([1, 1, 1] : List Int).length = 3 := rfl
    go_enter Tryd.func11, Tryd.ntmps11
    go_wp2_with (first | (go_at_call 23; refine m1.mono ?_; rintro e w1 ⟨rfl, b1⟩; have B1 := hide b1; clear b1) | (go_at_call 24; refine (mF _).mono ?_; rintro e w2_ ⟨rfl, rfl⟩) | (at_builtin; refine wpList_append_nums (by rfl) _ _ (by rfl) w.heap.size 0 _ _ (by rfl) (own_none2 _ _ B1.out.size) _ [1, 1, 1] (by rfl) (HL.out.on (blw_alloc B1.out _)) (by rw [LEN]; omega) (Nat.le_trans B1.out.size (by simp)) ?_; intro v' w2 hown hgr; have HB2 := hide (below_app2 (blw_alloc B1.out (.cells #[] 2)) (Nat.le_trans B1.out.size (by simp)) (own_none2 _ _ B1.out.size) hgr); have hw2 : ∃ g cap, v' = .slice (some ⟨g, 0, none⟩) 3 cap ∧ w.heap.size ≤ g ∧ 3 ≤ cap ∧ Rw w2 g [1, 1, 1] := (Rw.of_owns (n := 3) (l := [1, 1, 1]) (by rw [LEN] at hown; exact hown) (by decide) LEN.symm); obtain ⟨g, cap, rfl, hg2, hc2, hrw⟩ := hw2; have HG2 := hide hg2; have HR := hide hrw; have HC2 := hide hc2; clear hown hgr hg2 hrw hc2; have c0 := HR.out.cell 0 (x := 1) rfl; have c1 := HR.out.cell 1 (x := 1) rfl; have c2 := HR.out.cell 2 (x := 1) rfl; have f1 := HR.out.fr 1; have f2 := HR.out.fr 2) | (go_at_call 27; refine (mf _ _).mono ?_; rintro e w3_ ⟨rfl, rfl⟩))
    go_ret2
    refine ⟨g, cap, rfl, ?_, HG2.out, HC2.out, ?_⟩
    · (repeat (first | exact HR.out | apply Rw.set)) <;> rfl
    · repeat (first | exact HB2.out | refine Below.setCell ?_ HG2.out _)
end Go.Proofs.YthifgfhgkdjkfaaDoor
namespace Go.Proofs.YthifgfhgkdjkfaaDoor
open Go.RowKit
set_option maxRecDepth 100000 in
set_option maxHeartbeats 3200000 in
theorem rstep_8 (cv : Value) (a b d : Bool) (now : Int) (w : World) (hL : ILst w cv [flagN a, flagN b, flagN d]) (hc : chkE 8 [flagN a, flagN b, flagN d] = 0) (hn : nowOk now = true) : Calls Tryd.prog 11 #[.int .i64 8, cv, .int .i64 now] w fun e w' => ∃ g cap, e = .returned (.tuple #[.slice (some ⟨g, 0, none⟩) 3 cap, .int .i64 0]) ∧ Rw w' g (srT ⟨a, b, d⟩).ls ∧ w.heap.size ≤ g ∧ 3 ≤ cap ∧ Below w.heap.size w w' := by
  have m1 := rcheck_any 8 _ _ w hL
  rw [hc] at m1
  have hnn : ¬ now < 0 := by unfold nowOk at hn; simp at hn; omega
  have mF := fun W => fitsR_any 4 now W
  rw [now_fit hn] at mF
  have HN := hide hn
  have HL := hide hL
  obtain ⟨ca, cb, coff, ccap, hcv, -, -⟩ := hL
  change cv = .slice ca 3 ccap at hcv
  subst hcv
  have mf := flag12
  clear hn hc
  cases a <;> cases b <;> cases d
  · have LEN : ([0, 0, 0] : List Int).length = 3 := rfl
    go_enter Tryd.func11, Tryd.ntmps11
    go_wp2_with (first | (go_at_call 23; refine m1.mono ?_; rintro e w1 ⟨rfl, b1⟩; have B1 := hide b1; clear b1) | (go_at_call 24; refine (mF _).mono ?_; rintro e w2_ ⟨rfl, rfl⟩) | (at_builtin; refine wpList_append_nums (by rfl) _ _ (by rfl) w.heap.size 0 _ _ (by rfl) (own_none2 _ _ B1.out.size) _ [0, 0, 0] (by rfl) (HL.out.on (blw_alloc B1.out _)) (by rw [LEN]; omega) (Nat.le_trans B1.out.size (by simp)) ?_; intro v' w2 hown hgr; have HB2 := hide (below_app2 (blw_alloc B1.out (.cells #[] 2)) (Nat.le_trans B1.out.size (by simp)) (own_none2 _ _ B1.out.size) hgr); have hw2 : ∃ g cap, v' = .slice (some ⟨g, 0, none⟩) 3 cap ∧ w.heap.size ≤ g ∧ 3 ≤ cap ∧ Rw w2 g [0, 0, 0] := (Rw.of_owns (n := 3) (l := [0, 0, 0]) (by rw [LEN] at hown; exact hown) (by decide) LEN.symm); obtain ⟨g, cap, rfl, hg2, hc2, hrw⟩ := hw2; have HG2 := hide hg2; have HR := hide hrw; have HC2 := hide hc2; clear hown hgr hg2 hrw hc2; have c0 := HR.out.cell 0 (x := 0) rfl; have c1 := HR.out.cell 1 (x := 0) rfl; have c2 := HR.out.cell 2 (x := 0) rfl; have f1 := HR.out.fr 1; have f2 := HR.out.fr 2) | (go_at_call 27; refine (mf _ _).mono ?_; rintro e w3_ ⟨rfl, rfl⟩))
    go_ret2
    refine ⟨g, cap, rfl, ?_, HG2.out, HC2.out, ?_⟩
    · (repeat (first | exact HR.out | apply Rw.set)) <;> rfl
    · repeat (first | exact HB2.out | refine Below.setCell ?_ HG2.out _)
  · have LEN : ([0, 0, 1] : List Int).length = 3 := rfl
    go_enter Tryd.func11, Tryd.ntmps11
    go_wp2_with (first | (go_at_call 23; refine m1.mono ?_; rintro e w1 ⟨rfl, b1⟩; have B1 := hide b1; clear b1) | (go_at_call 24; refine (mF _).mono ?_; rintro e w2_ ⟨rfl, rfl⟩) | (at_builtin; refine wpList_append_nums (by rfl) _ _ (by rfl) w.heap.size 0 _ _ (by rfl) (own_none2 _ _ B1.out.size) _ [0, 0, 1] (by rfl) (HL.out.on (blw_alloc B1.out _)) (by rw [LEN]; omega) (Nat.le_trans B1.out.size (by simp)) ?_; intro v' w2 hown hgr; have HB2 := hide (below_app2 (blw_alloc B1.out (.cells #[] 2)) (Nat.le_trans B1.out.size (by simp)) (own_none2 _ _ B1.out.size) hgr); have hw2 : ∃ g cap, v' = .slice (some ⟨g, 0, none⟩) 3 cap ∧ w.heap.size ≤ g ∧ 3 ≤ cap ∧ Rw w2 g [0, 0, 1] := (Rw.of_owns (n := 3) (l := [0, 0, 1]) (by rw [LEN] at hown; exact hown) (by decide) LEN.symm); obtain ⟨g, cap, rfl, hg2, hc2, hrw⟩ := hw2; have HG2 := hide hg2; have HR := hide hrw; have HC2 := hide hc2; clear hown hgr hg2 hrw hc2; have c0 := HR.out.cell 0 (x := 0) rfl; have c1 := HR.out.cell 1 (x := 0) rfl; have c2 := HR.out.cell 2 (x := 1) rfl; have f1 := HR.out.fr 1; have f2 := HR.out.fr 2) | (go_at_call 27; refine (mf _ _).mono ?_; rintro e w3_ ⟨rfl, rfl⟩))
    go_ret2
    refine ⟨g, cap, rfl, ?_, HG2.out, HC2.out, ?_⟩
    · (repeat (first | exact HR.out | apply Rw.set)) <;> rfl
    · repeat (first | exact HB2.out | refine Below.setCell ?_ HG2.out _)
  · have LEN : ([0, 1, 0] : List Int).length = 3 := rfl
    go_enter Tryd.func11, Tryd.ntmps11
    go_wp2_with (first | (go_at_call 23; refine m1.mono ?_; rintro e w1 ⟨rfl, b1⟩; have B1 := hide b1; clear b1) | (go_at_call 24; refine (mF _).mono ?_; rintro e w2_ ⟨rfl, rfl⟩) | (at_builtin; refine wpList_append_nums (by rfl) _ _ (by rfl) w.heap.size 0 _ _ (by rfl) (own_none2 _ _ B1.out.size) _ [0, 1, 0] (by rfl) (HL.out.on (blw_alloc B1.out _)) (by rw [LEN]; omega) (Nat.le_trans B1.out.size (by simp)) ?_; intro v' w2 hown hgr; have HB2 := hide (below_app2 (blw_alloc B1.out (.cells #[] 2)) (Nat.le_trans B1.out.size (by simp)) (own_none2 _ _ B1.out.size) hgr); have hw2 : ∃ g cap, v' = .slice (some ⟨g, 0, none⟩) 3 cap ∧ w.heap.size ≤ g ∧ 3 ≤ cap ∧ Rw w2 g [0, 1, 0] := (Rw.of_owns (n := 3) (l := [0, 1, 0]) (by rw [LEN] at hown; exact hown) (by decide) LEN.symm); obtain ⟨g, cap, rfl, hg2, hc2, hrw⟩ := hw2; have HG2 := hide hg2; have HR := hide hrw; have HC2 := hide hc2; clear hown hgr hg2 hrw hc2; have c0 := HR.out.cell 0 (x := 0) rfl; have c1 := HR.out.cell 1 (x := 1) rfl; have c2 := HR.out.cell 2 (x := 0) rfl; have f1 := HR.out.fr 1; have f2 := HR.out.fr 2) | (go_at_call 27; refine (mf _ _).mono ?_; rintro e w3_ ⟨rfl, rfl⟩))
    go_ret2
    refine ⟨g, cap, rfl, ?_, HG2.out, HC2.out, ?_⟩
    · (repeat (first | exact HR.out | apply Rw.set)) <;> rfl
    · repeat (first | exact HB2.out | refine Below.setCell ?_ HG2.out _)
  · have LEN : ([0, 1, 1] : List Int).length = 3 := rfl
    go_enter Tryd.func11, Tryd.ntmps11
    go_wp2_with (first | (go_at_call 23; refine m1.mono ?_; rintro e w1 ⟨rfl, b1⟩; have B1 := hide b1; clear b1) | (go_at_call 24; refine (mF _).mono ?_; rintro e w2_ ⟨rfl, rfl⟩) | (at_builtin; refine wpList_append_nums (by rfl) _ _ (by rfl) w.heap.size 0 _ _ (by rfl) (own_none2 _ _ B1.out.size) _ [0, 1, 1] (by rfl) (HL.out.on (blw_alloc B1.out _)) (by rw [LEN]; omega) (Nat.le_trans B1.out.size (by simp)) ?_; intro v' w2 hown hgr; have HB2 := hide (below_app2 (blw_alloc B1.out (.cells #[] 2)) (Nat.le_trans B1.out.size (by simp)) (own_none2 _ _ B1.out.size) hgr); have hw2 : ∃ g cap, v' = .slice (some ⟨g, 0, none⟩) 3 cap ∧ w.heap.size ≤ g ∧ 3 ≤ cap ∧ Rw w2 g [0, 1, 1] := (Rw.of_owns (n := 3) (l := [0, 1, 1]) (by rw [LEN] at hown; exact hown) (by decide) LEN.symm); obtain ⟨g, cap, rfl, hg2, hc2, hrw⟩ := hw2; have HG2 := hide hg2; have HR := hide hrw; have HC2 := hide hc2; clear hown hgr hg2 hrw hc2; have c0 := HR.out.cell 0 (x := 0) rfl; have c1 := HR.out.cell 1 (x := 1) rfl; have c2 := HR.out.cell 2 (x := 1) rfl; have f1 := HR.out.fr 1; have f2 := HR.out.fr 2) | (go_at_call 27; refine (mf _ _).mono ?_; rintro e w3_ ⟨rfl, rfl⟩))
    go_ret2
    refine ⟨g, cap, rfl, ?_, HG2.out, HC2.out, ?_⟩
    · (repeat (first | exact HR.out | apply Rw.set)) <;> rfl
    · repeat (first | exact HB2.out | refine Below.setCell ?_ HG2.out _)
  · have LEN : ([1, 0, 0] : List Int).length = 3 := rfl
    go_enter Tryd.func11, Tryd.ntmps11
    go_wp2_with (first | (go_at_call 23; refine m1.mono ?_; rintro e w1 ⟨rfl, b1⟩; have B1 := hide b1; clear b1) | (go_at_call 24; refine (mF _).mono ?_; rintro e w2_ ⟨rfl, rfl⟩) | (at_builtin; refine wpList_append_nums (by rfl) _ _ (by rfl) w.heap.size 0 _ _ (by rfl) (own_none2 _ _ B1.out.size) _ [1, 0, 0] (by rfl) (HL.out.on (blw_alloc B1.out _)) (by rw [LEN]; omega) (Nat.le_trans B1.out.size (by simp)) ?_; intro v' w2 hown hgr; have HB2 := hide (below_app2 (blw_alloc B1.out (.cells #[] 2)) (Nat.le_trans B1.out.size (by simp)) (own_none2 _ _ B1.out.size) hgr); have hw2 : ∃ g cap, v' = .slice (some ⟨g, 0, none⟩) 3 cap ∧ w.heap.size ≤ g ∧ 3 ≤ cap ∧ Rw w2 g [1, 0, 0] := (Rw.of_owns (n := 3) (l := [1, 0, 0]) (by rw [LEN] at hown; exact hown) (by decide) LEN.symm); obtain ⟨g, cap, rfl, hg2, hc2, hrw⟩ := hw2; have HG2 := hide hg2; have HR := hide hrw; have HC2 := hide hc2; clear hown hgr hg2 hrw hc2; have c0 := HR.out.cell 0 (x := 1) rfl; have c1 := HR.out.cell 1 (x := 0) rfl; have c2 := HR.out.cell 2 (x := 0) rfl; have f1 := HR.out.fr 1; have f2 := HR.out.fr 2) | (go_at_call 27; refine (mf _ _).mono ?_; rintro e w3_ ⟨rfl, rfl⟩))
    go_ret2
    refine ⟨g, cap, rfl, ?_, HG2.out, HC2.out, ?_⟩
    · (repeat (first | exact HR.out | apply Rw.set)) <;> rfl
    · repeat (first | exact HB2.out | refine Below.setCell ?_ HG2.out _)
  · have LEN : ([1, 0, 1] : List Int).length = 3 := rfl
    go_enter Tryd.func11, Tryd.ntmps11
    go_wp2_with (first | (go_at_call 23; refine m1.mono ?_; rintro e w1 ⟨rfl, b1⟩; have B1 := hide b1; clear b1) | (go_at_call 24; refine (mF _).mono ?_; rintro e w2_ ⟨rfl, rfl⟩) | (at_builtin; refine wpList_append_nums (by rfl) _ _ (by rfl) w.heap.size 0 _ _ (by rfl) (own_none2 _ _ B1.out.size) _ [1, 0, 1] (by rfl) (HL.out.on (blw_alloc B1.out _)) (by rw [LEN]; omega) (Nat.le_trans B1.out.size (by simp)) ?_; intro v' w2 hown hgr; have HB2 := hide (below_app2 (blw_alloc B1.out (.cells #[] 2)) (Nat.le_trans B1.out.size (by simp)) (own_none2 _ _ B1.out.size) hgr); have hw2 : ∃ g cap, v' = .slice (some ⟨g, 0, none⟩) 3 cap ∧ w.heap.size ≤ g ∧ 3 ≤ cap ∧ Rw w2 g [1, 0, 1] := (Rw.of_owns (n := 3) (l := [1, 0, 1]) (by rw [LEN] at hown; exact hown) (by decide) LEN.symm); obtain ⟨g, cap, rfl, hg2, hc2, hrw⟩ := hw2; have HG2 := hide hg2; have HR := hide hrw; have HC2 := hide hc2; clear hown hgr hg2 hrw hc2; have c0 := HR.out.cell 0 (x := 1) rfl; have c1 := HR.out.cell 1 (x := 0) rfl; have c2 := HR.out.cell 2 (x := 1) rfl; have f1 := HR.out.fr 1; have f2 := HR.out.fr 2) | (go_at_call 27; refine (mf _ _).mono ?_; rintro e w3_ ⟨rfl, rfl⟩))
    go_ret2
    refine ⟨g, cap, rfl, ?_, HG2.out, HC2.out, ?_⟩
    · (repeat (first | exact HR.out | apply Rw.set)) <;> rfl
    · repeat (first | exact HB2.out | refine Below.setCell ?_ HG2.out _)
  · have LEN : ([1, 1, 0] : List Int).length = 3 := rfl
    go_enter Tryd.func11, Tryd.ntmps11
    go_wp2_with (first | (go_at_call 23; refine m1.mono ?_; rintro e w1 ⟨rfl, b1⟩; have B1 := hide b1; clear b1) | (go_at_call 24; refine (mF _).mono ?_; rintro e w2_ ⟨rfl, rfl⟩) | (at_builtin; refine wpList_append_nums (by rfl) _ _ (by rfl) w.heap.size 0 _ _ (by rfl) (own_none2 _ _ B1.out.size) _ [1, 1, 0] (by rfl) (HL.out.on (blw_alloc B1.out _)) (by rw [LEN]; omega) (Nat.le_trans B1.out.size (by simp)) ?_; intro v' w2 hown hgr; have HB2 := hide (below_app2 (blw_alloc B1.out (.cells #[] 2)) (Nat.le_trans B1.out.size (by simp)) (own_none2 _ _ B1.out.size) hgr); have hw2 : ∃ g cap, v' = .slice (some ⟨g, 0, none⟩) 3 cap ∧ w.heap.size ≤ g ∧ 3 ≤ cap ∧ Rw w2 g [1, 1, 0] := (Rw.of_owns (n := 3) (l := [1, 1, 0]) (by rw [LEN] at hown; exact hown) (by decide) LEN.symm); obtain ⟨g, cap, rfl, hg2, hc2, hrw⟩ := hw2; have HG2 := hide hg2; have HR := hide hrw; have HC2 := hide hc2; clear hown hgr hg2 hrw hc2; have c0 := HR.out.cell 0 (x := 1) rfl; have c1 := HR.out.cell 1 (x := 1) rfl; have c2 := HR.out.cell 2 (x := 0) rfl; have f1 := HR.out.fr 1; have f2 := HR.out.fr 2) | (go_at_call 27; refine (mf _ _).mono ?_; rintro e w3_ ⟨rfl, rfl⟩))
    go_ret2
    refine ⟨g, cap, rfl, ?_, HG2.out, HC2.out, ?_⟩
    · (repeat (first | exact HR.out | apply Rw.set)) <;> rfl
    · repeat (first | exact HB2.out | refine Below.setCell ?_ HG2.out _)
  · have LEN : ([1, 1, 1] : List Int).length = 3 := rfl
    go_enter Tryd.func11, Tryd.ntmps11
    go_wp2_with (first | (go_at_call 23; refine m1.mono ?_; rintro e w1 ⟨rfl, b1⟩; have B1 := hide b1; clear b1) | (go_at_call 24; refine (mF _).mono ?_; rintro e w2_ ⟨rfl, rfl⟩) | (at_builtin; refine wpList_append_nums (by rfl) _ _ (by rfl) w.heap.size 0 _ _ (by rfl) (own_none2 _ _ B1.out.size) _ [1, 1, 1] (by rfl) (HL.out.on (blw_alloc B1.out _)) (by rw [LEN]; omega) (Nat.le_trans B1.out.size (by simp)) ?_; intro v' w2 hown hgr; have HB2 := hide (below_app2 (blw_alloc B1.out (.cells #[] 2)) (Nat.le_trans B1.out.size (by simp)) (own_none2 _ _ B1.out.size) hgr); have hw2 : ∃ g cap, v' = .slice (some ⟨g, 0, none⟩) 3 cap ∧ w.heap.size ≤ g ∧ 3 ≤ cap ∧ Rw w2 g [1, 1, 1] := (Rw.of_owns (n := 3) (l := [1, 1, 1]) (by rw [LEN] at hown; exact hown) (by decide) LEN.symm); obtain ⟨g, cap, rfl, hg2, hc2, hrw⟩ := hw2; have HG2 := hide hg2; have HR := hide hrw; have HC2 := hide hc2; clear hown hgr hg2 hrw hc2; have c0 := HR.out.cell 0 (x := 1) rfl; have c1 := HR.out.cell 1 (x := 1) rfl; have c2 := HR.out.cell 2 (x := 1) rfl; have f1 := HR.out.fr 1; have f2 := HR.out.fr 2) | (go_at_call 27; refine (mf _ _).mono ?_; rintro e w3_ ⟨rfl, rfl⟩))
    go_ret2
    refine ⟨g, cap, rfl, ?_, HG2.out, HC2.out, ?_⟩
    · (repeat (first | exact HR.out | apply Rw.set)) <;> rfl
    · repeat (first | exact HB2.out | refine Below.setCell ?_ HG2.out _)
set_option maxRecDepth 100000 in
set_option maxHeartbeats 3200000 in
theorem rstep_9 (cv : Value) (a b d : Bool) (now : Int) (w : World) (hL : ILst w cv [flagN a, flagN b, flagN d]) (hc : chkE 9 [flagN a, flagN b, flagN d] = 0) (hn : nowOk now = true) : Calls Tryd.prog 11 #[.int .i64 9, cv, .int .i64 now] w fun e w' => ∃ g cap, e = .returned (.tuple #[.slice (some ⟨g, 0, none⟩) 3 cap, .int .i64 0]) ∧ Rw w' g (rsT ⟨a, b, d⟩).ls ∧ w.heap.size ≤ g ∧ 3 ≤ cap ∧ Below w.heap.size w w' := by
  have m1 := rcheck_any 9 _ _ w hL
  rw [hc] at m1
  have hnn : ¬ now < 0 := by unfold nowOk at hn; simp at hn; omega
  have mF := fun W => fitsR_any 4 now W
  rw [now_fit hn] at mF
  have HN := hide hn
  have HL := hide hL
  obtain ⟨ca, cb, coff, ccap, hcv, -, -⟩ := hL
  change cv = .slice ca 3 ccap at hcv
  subst hcv
  have mf := flag12
  clear hn hc
  cases a <;> cases b <;> cases d
  · have LEN : ([0, 0, 0] : List Int).length = 3 := rfl
    go_enter Tryd.func11, Tryd.ntmps11
    go_wp2_with (first | (go_at_call 23; refine m1.mono ?_; rintro e w1 ⟨rfl, b1⟩; have B1 := hide b1; clear b1) | (go_at_call 24; refine (mF _).mono ?_; rintro e w2_ ⟨rfl, rfl⟩) | (at_builtin; refine wpList_append_nums (by rfl) _ _ (by rfl) w.heap.size 0 _ _ (by rfl) (own_none2 _ _ B1.out.size) _ [0, 0, 0] (by rfl) (HL.out.on (blw_alloc B1.out _)) (by rw [LEN]; omega) (Nat.le_trans B1.out.size (by simp)) ?_; intro v' w2 hown hgr; have HB2 := hide (below_app2 (blw_alloc B1.out (.cells #[] 2)) (Nat.le_trans B1.out.size (by simp)) (own_none2 _ _ B1.out.size) hgr); have hw2 : ∃ g cap, v' = .slice (some ⟨g, 0, none⟩) 3 cap ∧ w.heap.size ≤ g ∧ 3 ≤ cap ∧ Rw w2 g [0, 0, 0] := (Rw.of_owns (n := 3) (l := [0, 0, 0]) (by rw [LEN] at hown; exact hown) (by decide) LEN.symm); obtain ⟨g, cap, rfl, hg2, hc2, hrw⟩ := hw2; have HG2 := hide hg2; have HR := hide hrw; have HC2 := hide hc2; clear hown hgr hg2 hrw hc2; have c0 := HR.out.cell 0 (x := 0) rfl; have c1 := HR.out.cell 1 (x := 0) rfl; have c2 := HR.out.cell 2 (x := 0) rfl; have f1 := HR.out.fr 1; have f2 := HR.out.fr 2) | (go_at_call 27; refine (mf _ _).mono ?_; rintro e w3_ ⟨rfl, rfl⟩))
    go_ret2
    refine ⟨g, cap, rfl, ?_, HG2.out, HC2.out, ?_⟩
    · (repeat (first | exact HR.out | apply Rw.set)) <;> rfl
    · repeat (first | exact HB2.out | refine Below.setCell ?_ HG2.out _)
  · have LEN : ([0, 0, 1] : List Int).length = 3 := rfl
    go_enter Tryd.func11, Tryd.ntmps11
    go_wp2_with (first | (go_at_call 23; refine m1.mono ?_; rintro e w1 ⟨rfl, b1⟩; have B1 := hide b1; clear b1) | (go_at_call 24; refine (mF _).mono ?_; rintro e w2_ ⟨rfl, rfl⟩) | (at_builtin; refine wpList_append_nums (by rfl) _ _ (by rfl) w.heap.size 0 _ _ (by rfl) (own_none2 _ _ B1.out.size) _ [0, 0, 1] (by rfl) (HL.out.on (blw_alloc B1.out _)) (by rw [LEN]; omega) (Nat.le_trans B1.out.size (by simp)) ?_; intro v' w2 hown hgr; have HB2 := hide (below_app2 (blw_alloc B1.out (.cells #[] 2)) (Nat.le_trans B1.out.size (by simp)) (own_none2 _ _ B1.out.size) hgr); have hw2 : ∃ g cap, v' = .slice (some ⟨g, 0, none⟩) 3 cap ∧ w.heap.size ≤ g ∧ 3 ≤ cap ∧ Rw w2 g [0, 0, 1] := (Rw.of_owns (n := 3) (l := [0, 0, 1]) (by rw [LEN] at hown; exact hown) (by decide) LEN.symm); obtain ⟨g, cap, rfl, hg2, hc2, hrw⟩ := hw2; have HG2 := hide hg2; have HR := hide hrw; have HC2 := hide hc2; clear hown hgr hg2 hrw hc2; have c0 := HR.out.cell 0 (x := 0) rfl; have c1 := HR.out.cell 1 (x := 0) rfl; have c2 := HR.out.cell 2 (x := 1) rfl; have f1 := HR.out.fr 1; have f2 := HR.out.fr 2) | (go_at_call 27; refine (mf _ _).mono ?_; rintro e w3_ ⟨rfl, rfl⟩))
    go_ret2
    refine ⟨g, cap, rfl, ?_, HG2.out, HC2.out, ?_⟩
    · (repeat (first | exact HR.out | apply Rw.set)) <;> rfl
    · repeat (first | exact HB2.out | refine Below.setCell ?_ HG2.out _)
  · have LEN : ([0, 1, 0] : List Int).length = 3 := rfl
    go_enter Tryd.func11, Tryd.ntmps11
    go_wp2_with (first | (go_at_call 23; refine m1.mono ?_; rintro e w1 ⟨rfl, b1⟩; have B1 := hide b1; clear b1) | (go_at_call 24; refine (mF _).mono ?_; rintro e w2_ ⟨rfl, rfl⟩) | (at_builtin; refine wpList_append_nums (by rfl) _ _ (by rfl) w.heap.size 0 _ _ (by rfl) (own_none2 _ _ B1.out.size) _ [0, 1, 0] (by rfl) (HL.out.on (blw_alloc B1.out _)) (by rw [LEN]; omega) (Nat.le_trans B1.out.size (by simp)) ?_; intro v' w2 hown hgr; have HB2 := hide (below_app2 (blw_alloc B1.out (.cells #[] 2)) (Nat.le_trans B1.out.size (by simp)) (own_none2 _ _ B1.out.size) hgr); have hw2 : ∃ g cap, v' = .slice (some ⟨g, 0, none⟩) 3 cap ∧ w.heap.size ≤ g ∧ 3 ≤ cap ∧ Rw w2 g [0, 1, 0] := (Rw.of_owns (n := 3) (l := [0, 1, 0]) (by rw [LEN] at hown; exact hown) (by decide) LEN.symm); obtain ⟨g, cap, rfl, hg2, hc2, hrw⟩ := hw2; have HG2 := hide hg2; have HR := hide hrw; have HC2 := hide hc2; clear hown hgr hg2 hrw hc2; have c0 := HR.out.cell 0 (x := 0) rfl; have c1 := HR.out.cell 1 (x := 1) rfl; have c2 := HR.out.cell 2 (x := 0) rfl; have f1 := HR.out.fr 1; have f2 := HR.out.fr 2) | (go_at_call 27; refine (mf _ _).mono ?_; rintro e w3_ ⟨rfl, rfl⟩))
    go_ret2
    refine ⟨g, cap, rfl, ?_, HG2.out, HC2.out, ?_⟩
    · (repeat (first | exact HR.out | apply Rw.set)) <;> rfl
    · repeat (first | exact HB2.out | refine Below.setCell ?_ HG2.out _)
  · have LEN : ([0, 1, 1] : List Int).length = 3 := rfl
    go_enter Tryd.func11, Tryd.ntmps11
    go_wp2_with (first | (go_at_call 23; refine m1.mono ?_; rintro e w1 ⟨rfl, b1⟩; have B1 := hide b1; clear b1) | (go_at_call 24; refine (mF _).mono ?_; rintro e w2_ ⟨rfl, rfl⟩) | (at_builtin; refine wpList_append_nums (by rfl) _ _ (by rfl) w.heap.size 0 _ _ (by rfl) (own_none2 _ _ B1.out.size) _ [0, 1, 1] (by rfl) (HL.out.on (blw_alloc B1.out _)) (by rw [LEN]; omega) (Nat.le_trans B1.out.size (by simp)) ?_; intro v' w2 hown hgr; have HB2 := hide (below_app2 (blw_alloc B1.out (.cells #[] 2)) (Nat.le_trans B1.out.size (by simp)) (own_none2 _ _ B1.out.size) hgr); have hw2 : ∃ g cap, v' = .slice (some ⟨g, 0, none⟩) 3 cap ∧ w.heap.size ≤ g ∧ 3 ≤ cap ∧ Rw w2 g [0, 1, 1] := (Rw.of_owns (n := 3) (l := [0, 1, 1]) (by rw [LEN] at hown; exact hown) (by decide) LEN.symm); obtain ⟨g, cap, rfl, hg2, hc2, hrw⟩ := hw2; have HG2 := hide hg2; have HR := hide hrw; have HC2 := hide hc2; clear hown hgr hg2 hrw hc2; have c0 := HR.out.cell 0 (x := 0) rfl; have c1 := HR.out.cell 1 (x := 1) rfl; have c2 := HR.out.cell 2 (x := 1) rfl; have f1 := HR.out.fr 1; have f2 := HR.out.fr 2) | (go_at_call 27; refine (mf _ _).mono ?_; rintro e w3_ ⟨rfl, rfl⟩))
    go_ret2
    refine ⟨g, cap, rfl, ?_, HG2.out, HC2.out, ?_⟩
    · (repeat (first | exact HR.out | apply Rw.set)) <;> rfl
    · repeat (first | exact HB2.out | refine Below.setCell ?_ HG2.out _)
  · have LEN : ([1, 0, 0] : List Int).length = 3 := rfl
    go_enter Tryd.func11, Tryd.ntmps11
    go_wp2_with (first | (go_at_call 23; refine m1.mono ?_; rintro e w1 ⟨rfl, b1⟩; have B1 := hide b1; clear b1) | (go_at_call 24; refine (mF _).mono ?_; rintro e w2_ ⟨rfl, rfl⟩) | (at_builtin; refine wpList_append_nums (by rfl) _ _ (by rfl) w.heap.size 0 _ _ (by rfl) (own_none2 _ _ B1.out.size) _ [1, 0, 0] (by rfl) (HL.out.on (blw_alloc B1.out _)) (by rw [LEN]; omega) (Nat.le_trans B1.out.size (by simp)) ?_; intro v' w2 hown hgr; have HB2 := hide (below_app2 (blw_alloc B1.out (.cells #[] 2)) (Nat.le_trans B1.out.size (by simp)) (own_none2 _ _ B1.out.size) hgr); have hw2 : ∃ g cap, v' = .slice (some ⟨g, 0, none⟩) 3 cap ∧ w.heap.size ≤ g ∧ 3 ≤ cap ∧ Rw w2 g [1, 0, 0] := (Rw.of_owns (n := 3) (l := [1, 0, 0]) (by rw [LEN] at hown; exact hown) (by decide) LEN.symm); obtain ⟨g, cap, rfl, hg2, hc2, hrw⟩ := hw2; have HG2 := hide hg2; have HR := hide hrw; have HC2 := hide hc2; clear hown hgr hg2 hrw hc2; have c0 := HR.out.cell 0 (x := 1) rfl; have c1 := HR.out.cell 1 (x := 0) rfl; have c2 := HR.out.cell 2 (x := 0) rfl; have f1 := HR.out.fr 1; have f2 := HR.out.fr 2) | (go_at_call 27; refine (mf _ _).mono ?_; rintro e w3_ ⟨rfl, rfl⟩))
    go_ret2
    refine ⟨g, cap, rfl, ?_, HG2.out, HC2.out, ?_⟩
    · (repeat (first | exact HR.out | apply Rw.set)) <;> rfl
    · repeat (first | exact HB2.out | refine Below.setCell ?_ HG2.out _)
  · have LEN : ([1, 0, 1] : List Int).length = 3 := rfl
    go_enter Tryd.func11, Tryd.ntmps11
    go_wp2_with (first | (go_at_call 23; refine m1.mono ?_; rintro e w1 ⟨rfl, b1⟩; have B1 := hide b1; clear b1) | (go_at_call 24; refine (mF _).mono ?_; rintro e w2_ ⟨rfl, rfl⟩) | (at_builtin; refine wpList_append_nums (by rfl) _ _ (by rfl) w.heap.size 0 _ _ (by rfl) (own_none2 _ _ B1.out.size) _ [1, 0, 1] (by rfl) (HL.out.on (blw_alloc B1.out _)) (by rw [LEN]; omega) (Nat.le_trans B1.out.size (by simp)) ?_; intro v' w2 hown hgr; have HB2 := hide (below_app2 (blw_alloc B1.out (.cells #[] 2)) (Nat.le_trans B1.out.size (by simp)) (own_none2 _ _ B1.out.size) hgr); have hw2 : ∃ g cap, v' = .slice (some ⟨g, 0, none⟩) 3 cap ∧ w.heap.size ≤ g ∧ 3 ≤ cap ∧ Rw w2 g [1, 0, 1] := (Rw.of_owns (n := 3) (l := [1, 0, 1]) (by rw [LEN] at hown; exact hown) (by decide) LEN.symm); obtain ⟨g, cap, rfl, hg2, hc2, hrw⟩ := hw2; have HG2 := hide hg2; have HR := hide hrw; have HC2 := hide hc2; clear hown hgr hg2 hrw hc2; have c0 := HR.out.cell 0 (x := 1) rfl; have c1 := HR.out.cell 1 (x := 0) rfl; have c2 := HR.out.cell 2 (x := 1) rfl; have f1 := HR.out.fr 1; have f2 := HR.out.fr 2) | (go_at_call 27; refine (mf _ _).mono ?_; rintro e w3_ ⟨rfl, rfl⟩))
    go_ret2
    refine ⟨g, cap, rfl, ?_, HG2.out, HC2.out, ?_⟩
    · (repeat (first | exact HR.out | apply Rw.set)) <;> rfl
    · repeat (first | exact HB2.out | refine Below.setCell ?_ HG2.out _)
  · have LEN : ([1, 1, 0] : List Int).length = 3 := rfl
    go_enter Tryd.func11, Tryd.ntmps11
    go_wp2_with (first | (go_at_call 23; refine m1.mono ?_; rintro e w1 ⟨rfl, b1⟩; have B1 := hide b1; clear b1) | (go_at_call 24; refine (mF _).mono ?_; rintro e w2_ ⟨rfl, rfl⟩) | (at_builtin; refine wpList_append_nums (by rfl) _ _ (by rfl) w.heap.size 0 _ _ (by rfl) (own_none2 _ _ B1.out.size) _ [1, 1, 0] (by rfl) (HL.out.on (blw_alloc B1.out _)) (by rw [LEN]; omega) (Nat.le_trans B1.out.size (by simp)) ?_; intro v' w2 hown hgr; have HB2 := hide (below_app2 (blw_alloc B1.out (.cells #[] 2)) (Nat.le_trans B1.out.size (by simp)) (own_none2 _ _ B1.out.size) hgr); have hw2 : ∃ g cap, v' = .slice (some ⟨g, 0, none⟩) 3 cap ∧ w.heap.size ≤ g ∧ 3 ≤ cap ∧ Rw w2 g [1, 1, 0] := (Rw.of_owns (n := 3) (l := [1, 1, 0]) (by rw [LEN] at hown; exact hown) (by decide) LEN.symm); obtain ⟨g, cap, rfl, hg2, hc2, hrw⟩ := hw2; have HG2 := hide hg2; have HR := hide hrw; have HC2 := hide hc2; clear hown hgr hg2 hrw hc2; have c0 := HR.out.cell 0 (x := 1) rfl; have c1 := HR.out.cell 1 (x := 1) rfl; have c2 := HR.out.cell 2 (x := 0) rfl; have f1 := HR.out.fr 1; have f2 := HR.out.fr 2) | (go_at_call 27; refine (mf _ _).mono ?_; rintro e w3_ ⟨rfl, rfl⟩))
    go_ret2
    refine ⟨g, cap, rfl, ?_, HG2.out, HC2.out, ?_⟩
    · (repeat (first | exact HR.out | apply Rw.set)) <;> rfl
    · repeat (first | exact HB2.out | refine Below.setCell ?_ HG2.out _)
  · have LEN : ([1, 1, 1] : List Int).length = 3 := rfl
    go_enter Tryd.func11, Tryd.ntmps11
    go_wp2_with (first | (go_at_call 23; refine m1.mono ?_; rintro e w1 ⟨rfl, b1⟩; have B1 := hide b1; clear b1) | (go_at_call 24; refine (mF _).mono ?_; rintro e w2_ ⟨rfl, rfl⟩) | (at_builtin; refine wpList_append_nums (by rfl) _ _ (by rfl) w.heap.size 0 _ _ (by rfl) (own_none2 _ _ B1.out.size) _ [1, 1, 1] (by rfl) (HL.out.on (blw_alloc B1.out _)) (by rw [LEN]; omega) (Nat.le_trans B1.out.size (by simp)) ?_; intro v' w2 hown hgr; have HB2 := hide (below_app2 (blw_alloc B1.out (.cells #[] 2)) (Nat.le_trans B1.out.size (by simp)) (own_none2 _ _ B1.out.size) hgr); have hw2 : ∃ g cap, v' = .slice (some ⟨g, 0, none⟩) 3 cap ∧ w.heap.size ≤ g ∧ 3 ≤ cap ∧ Rw w2 g [1, 1, 1] := (Rw.of_owns (n := 3) (l := [1, 1, 1]) (by rw [LEN] at hown; exact hown) (by decide) LEN.symm); obtain ⟨g, cap, rfl, hg2, hc2, hrw⟩ := hw2; have HG2 := hide hg2; have HR := hide hrw; have HC2 := hide hc2; clear hown hgr hg2 hrw hc2; have c0 := HR.out.cell 0 (x := 1) rfl; have c1 := HR.out.cell 1 (x := 1) rfl; have c2 := HR.out.cell 2 (x := 1) rfl; have f1 := HR.out.fr 1; have f2 := HR.out.fr 2) | (go_at_call 27; refine (mf _ _).mono ?_; rintro e w3_ ⟨rfl, rfl⟩))
    go_ret2
    refine ⟨g, cap, rfl, ?_, HG2.out, HC2.out, ?_⟩
    · (repeat (first | exact HR.out | apply Rw.set)) <;> rfl
    · repeat (first | exact HB2.out | refine Below.setCell ?_ HG2.out _)
end Go.Proofs.YthifgfhgkdjkfaaDoor
