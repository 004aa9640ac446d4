/- The document's Step. | The document's Step, where functions of its own do it. -/
import Derived.Test.YthifgfhgkdjkfaaDoorMg17
import Derived.Test.YthifgfhgkdjkfaaDoorDbW
import Derived.Test.YthifgfhgkdjkfaaDoorDcX
import Derived.Test.YthifgfhgkdjkfaaDoorDdX
import Derived.Test.YthifgfhgkdjkfaaDoorDeX
import Derived.Test.YthifgfhgkdjkfaaDoorMg22
namespace Go.Proofs.YthifgfhgkdjkfaaDoor
open Go.RowKit
/-- cells that fit, as a kind's own -/
theorem tm_of {k : Int} {c : List Int} (hk : k = 1 ∨ k = 2 ∨ k = 3) (hl : c.length = (fldK k).length) (hf : fitL (fldK k) c = true) : c = (tmL c).ls ∧ fitB 4 (tmL c).s = true := by
  have e : fldK k = fldK 1 := by rcases hk with rfl | rfl | rfl <;> rfl
  rw [e] at hl hf
  obtain ⟨x0, x1, x2, x3, x4, x5, rfl⟩ := six_of (c := c) hl
  simp [fitL, fldK] at hf
  obtain ⟨h0, h1, h2, h3, h4, h5⟩ := hf
  refine ⟨?_, h4⟩
  rcases fit_one h0 with rfl | rfl <;> rcases fit_one h2 with rfl | rfl <;> rcases fit_one h5 with rfl | rfl <;> rfl
theorem cn_of {k : Int} {c : List Int} (hk : k = 4 ∨ k = 5) (hl : c.length = (fldK k).length) (hf : fitL (fldK k) c = true) : c = (cnL c).ls ∧ (-32768 ≤ (cnL c).v ∧ (cnL c).v ≤ 32767) := by
  have e : fldK k = fldK 4 := by rcases hk with rfl | rfl <;> rfl
  rw [e] at hl hf
  obtain ⟨x0, x1, x2, x3, x4, x5, rfl⟩ := six_of (c := c) hl
  simp [fitL, fldK] at hf
  obtain ⟨h0, h1, h2, h3, h4, h5⟩ := hf
  refine ⟨?_, int_fit h4⟩
  rcases fit_one h0 with rfl | rfl <;> rcases fit_one h1 with rfl | rfl <;> rcases fit_one h3 with rfl | rfl <;> rcases fit_one h5 with rfl | rfl <;> rfl
theorem cd_of {c : List Int} (hl : c.length = (fldK 10).length) (hf : fitL (fldK 10) c = true) : c = (cdL c).ls ∧ fitB 3 (cdL c).v = true := by
  obtain ⟨x0, x1, x2, x3, x4, x5, rfl⟩ := six_of (c := c) hl
  simp [fitL, fldK] at hf
  obtain ⟨h0, h1, h2, h3, h4, h5⟩ := hf
  refine ⟨?_, h3⟩
  rcases fit_one h0 with rfl | rfl <;> rcases fit_one h1 with rfl | rfl <;> rcases fit_one h2 with rfl | rfl <;> rcases fit_one h4 with rfl | rfl <;> rfl
theorem tr_of {k : Int} {c : List Int} (hk : k = 6 ∨ k = 7 ∨ k = 8 ∨ k = 9) (hl : c.length = (fldK k).length) (hf : fitL (fldK k) c = true) : ∃ a b d, c = [flagN a, flagN b, flagN d] ∧ trL c = ⟨a, b, d⟩ := by
  have hl3 : c.length = 3 := by rw [hl]; rcases hk with rfl | rfl | rfl | rfl <;> rfl
  obtain ⟨x0, x1, x2, rfl⟩ := three_of hl3
  have h : fitB 1 x0 = true ∧ fitB 1 x1 = true ∧ fitB 1 x2 = true := by rcases hk with rfl | rfl | rfl | rfl <;> simpa [fitL, fldK] using hf
  obtain ⟨h0, h1, h2⟩ := h
  refine ⟨x0 == 1, x1 == 1, x2 == 1, ?_, rfl⟩
  rcases fit_one h0 with rfl | rfl <;> rcases fit_one h1 with rfl | rfl <;> rcases fit_one h2 with rfl | rfl <;> rfl
end Go.Proofs.YthifgfhgkdjkfaaDoor
namespace Go.Proofs.YthifgfhgkdjkfaaDoor
open Go.RowKit
set_option maxRecDepth 100000 in
set_option maxHeartbeats 3200000 in
theorem rstep_1 (cv : Value) (t : Tm) (now : Int) (w : World) (hL : ILst w cv t.ls) (hc : chkE 1 t.ls = 0) (hn : nowOk now = true) (hs : fitB 4 t.s = true) : Calls Tryd.prog 11 #[.int .i64 1, cv, .int .i64 now] w fun e w' => ∃ g cap, e = .returned (.tuple #[.slice (some ⟨g, 0, none⟩) 6 cap, .int .i64 0]) ∧ Rw w' g (tonT now t).ls ∧ w.heap.size ≤ g ∧ 6 ≤ cap ∧ Below w.heap.size w w' := by
  have m1 := rcheck_any 1 _ _ w hL
  rw [hc] at m1
  have hnn : ¬ now < 0 := by unfold nowOk at hn; simp at hn; omega
  have mF := fun W => fitsR_any 4 now W
  rw [now_fit hn] at mF
  have HN := hide hn
  have HL := hide hL
  obtain ⟨ca, cb, coff, ccap, hcv, -, -⟩ := hL
  have LEN : t.ls.length = 6 := rfl
  change cv = .slice ca 6 ccap at hcv
  subst hcv
  clear hn hc
  go_enter Tryd.func11, Tryd.ntmps11
  go_wp2_with (first | (go_at_call 23; refine m1.mono ?_; rintro e w1 ⟨rfl, b1⟩; have B1 := hide b1; clear b1) | (go_at_call 24; refine (mF _).mono ?_; rintro e w2_ ⟨rfl, rfl⟩) | (at_builtin; refine wpList_append_nums (by rfl) _ _ (by rfl) w.heap.size 0 _ _ (by rfl) (own_none2 _ _ B1.out.size) _ t.ls (by rfl) (HL.out.on (blw_alloc B1.out _)) (by rw [LEN]; omega) (Nat.le_trans B1.out.size (by simp)) ?_; intro v' w2 hown hgr; have HB2 := hide (below_app2 (blw_alloc B1.out (.cells #[] 2)) (Nat.le_trans B1.out.size (by simp)) (own_none2 _ _ B1.out.size) hgr); have hw2 : ∃ g cap, v' = .slice (some ⟨g, 0, none⟩) 6 cap ∧ w.heap.size ≤ g ∧ 6 ≤ cap ∧ Rw w2 g t.ls := (Rw.of_owns (n := 6) (l := t.ls) (by rw [LEN] at hown; exact hown) (by decide) LEN.symm); obtain ⟨g, cap, rfl, hg2, hc2, hrw⟩ := hw2; have HG2 := hide hg2; have HR := hide hrw; have HC2 := hide hc2; clear hown hgr hg2 hrw hc2) | (go_at_call 25; refine (rton g cap now t _ (now_fit HN.out) hs HR.out).mono ?_; rintro e w3 ⟨rfl, hr3, hb3⟩; have R3 := hide hr3; have B3 := hide (HB2.out.trans (hb3.mono HG2.out)); clear hr3 hb3))
  go_ret2
  exact ⟨g, cap, rfl, R3.out, HG2.out, HC2.out, B3.out⟩
set_option maxRecDepth 100000 in
set_option maxHeartbeats 3200000 in
theorem rstep_2 (cv : Value) (t : Tm) (now : Int) (w : World) (hL : ILst w cv t.ls) (hc : chkE 2 t.ls = 0) (hn : nowOk now = true) (hs : fitB 4 t.s = true) : Calls Tryd.prog 11 #[.int .i64 2, cv, .int .i64 now] w fun e w' => ∃ g cap, e = .returned (.tuple #[.slice (some ⟨g, 0, none⟩) 6 cap, .int .i64 0]) ∧ Rw w' g (tofT now t).ls ∧ w.heap.size ≤ g ∧ 6 ≤ cap ∧ Below w.heap.size w w' := by
  have m1 := rcheck_any 2 _ _ w hL
  rw [hc] at m1
  have hnn : ¬ now < 0 := by unfold nowOk at hn; simp at hn; omega
  have mF := fun W => fitsR_any 4 now W
  rw [now_fit hn] at mF
  have HN := hide hn
  have HL := hide hL
  obtain ⟨ca, cb, coff, ccap, hcv, -, -⟩ := hL
  have LEN : t.ls.length = 6 := rfl
  change cv = .slice ca 6 ccap at hcv
  subst hcv
  clear hn hc
  go_enter Tryd.func11, Tryd.ntmps11
  go_wp2_with (first | (go_at_call 23; refine m1.mono ?_; rintro e w1 ⟨rfl, b1⟩; have B1 := hide b1; clear b1) | (go_at_call 24; refine (mF _).mono ?_; rintro e w2_ ⟨rfl, rfl⟩) | (at_builtin; refine wpList_append_nums (by rfl) _ _ (by rfl) w.heap.size 0 _ _ (by rfl) (own_none2 _ _ B1.out.size) _ t.ls (by rfl) (HL.out.on (blw_alloc B1.out _)) (by rw [LEN]; omega) (Nat.le_trans B1.out.size (by simp)) ?_; intro v' w2 hown hgr; have HB2 := hide (below_app2 (blw_alloc B1.out (.cells #[] 2)) (Nat.le_trans B1.out.size (by simp)) (own_none2 _ _ B1.out.size) hgr); have hw2 : ∃ g cap, v' = .slice (some ⟨g, 0, none⟩) 6 cap ∧ w.heap.size ≤ g ∧ 6 ≤ cap ∧ Rw w2 g t.ls := (Rw.of_owns (n := 6) (l := t.ls) (by rw [LEN] at hown; exact hown) (by decide) LEN.symm); obtain ⟨g, cap, rfl, hg2, hc2, hrw⟩ := hw2; have HG2 := hide hg2; have HR := hide hrw; have HC2 := hide hc2; clear hown hgr hg2 hrw hc2) | (go_at_call 25; refine (rtof g cap now t _ (now_fit HN.out) hs HR.out).mono ?_; rintro e w3 ⟨rfl, hr3, hb3⟩; have R3 := hide hr3; have B3 := hide (HB2.out.trans (hb3.mono HG2.out)); clear hr3 hb3))
  go_ret2
  exact ⟨g, cap, rfl, R3.out, HG2.out, HC2.out, B3.out⟩
set_option maxRecDepth 100000 in
set_option maxHeartbeats 3200000 in
theorem rstep_3 (cv : Value) (t : Tm) (now : Int) (w : World) (hL : ILst w cv t.ls) (hc : chkE 3 t.ls = 0) (hn : nowOk now = true) (hs : fitB 4 t.s = true) : Calls Tryd.prog 11 #[.int .i64 3, cv, .int .i64 now] w fun e w' => ∃ g cap, e = .returned (.tuple #[.slice (some ⟨g, 0, none⟩) 6 cap, .int .i64 0]) ∧ Rw w' g (tpT now t).ls ∧ w.heap.size ≤ g ∧ 6 ≤ cap ∧ Below w.heap.size w w' := by
  have m1 := rcheck_any 3 _ _ w hL
  rw [hc] at m1
  have hnn : ¬ now < 0 := by unfold nowOk at hn; simp at hn; omega
  have mF := fun W => fitsR_any 4 now W
  rw [now_fit hn] at mF
  have HN := hide hn
  have HL := hide hL
  obtain ⟨ca, cb, coff, ccap, hcv, -, -⟩ := hL
  have LEN : t.ls.length = 6 := rfl
  change cv = .slice ca 6 ccap at hcv
  subst hcv
  clear hn hc
  go_enter Tryd.func11, Tryd.ntmps11
  go_wp2_with (first | (go_at_call 23; refine m1.mono ?_; rintro e w1 ⟨rfl, b1⟩; have B1 := hide b1; clear b1) | (go_at_call 24; refine (mF _).mono ?_; rintro e w2_ ⟨rfl, rfl⟩) | (at_builtin; refine wpList_append_nums (by rfl) _ _ (by rfl) w.heap.size 0 _ _ (by rfl) (own_none2 _ _ B1.out.size) _ t.ls (by rfl) (HL.out.on (blw_alloc B1.out _)) (by rw [LEN]; omega) (Nat.le_trans B1.out.size (by simp)) ?_; intro v' w2 hown hgr; have HB2 := hide (below_app2 (blw_alloc B1.out (.cells #[] 2)) (Nat.le_trans B1.out.size (by simp)) (own_none2 _ _ B1.out.size) hgr); have hw2 : ∃ g cap, v' = .slice (some ⟨g, 0, none⟩) 6 cap ∧ w.heap.size ≤ g ∧ 6 ≤ cap ∧ Rw w2 g t.ls := (Rw.of_owns (n := 6) (l := t.ls) (by rw [LEN] at hown; exact hown) (by decide) LEN.symm); obtain ⟨g, cap, rfl, hg2, hc2, hrw⟩ := hw2; have HG2 := hide hg2; have HR := hide hrw; have HC2 := hide hc2; clear hown hgr hg2 hrw hc2) | (go_at_call 25; refine (rtp g cap now t _ (now_fit HN.out) hs HR.out).mono ?_; rintro e w3 ⟨rfl, hr3, hb3⟩; have R3 := hide hr3; have B3 := hide (HB2.out.trans (hb3.mono HG2.out)); clear hr3 hb3))
  go_ret2
  exact ⟨g, cap, rfl, R3.out, HG2.out, HC2.out, B3.out⟩
set_option maxRecDepth 100000 in
set_option maxHeartbeats 3200000 in
theorem rstep_4 (cv : Value) (t : Cn) (now : Int) (w : World) (hL : ILst w cv t.ls) (hc : chkE 4 t.ls = 0) (hn : nowOk now = true) (hv : -32768 ≤ t.v ∧ t.v ≤ 32767) : Calls Tryd.prog 11 #[.int .i64 4, cv, .int .i64 now] w fun e w' => ∃ g cap, e = .returned (.tuple #[.slice (some ⟨g, 0, none⟩) 6 cap, .int .i64 0]) ∧ Rw w' g (ctuT t).ls ∧ w.heap.size ≤ g ∧ 6 ≤ cap ∧ Below w.heap.size w w' := by
  have m1 := rcheck_any 4 _ _ w hL
  rw [hc] at m1
  have hnn : ¬ now < 0 := by unfold nowOk at hn; simp at hn; omega
  have mF := fun W => fitsR_any 4 now W
  rw [now_fit hn] at mF
  have HN := hide hn
  have HL := hide hL
  obtain ⟨ca, cb, coff, ccap, hcv, -, -⟩ := hL
  have LEN : t.ls.length = 6 := rfl
  change cv = .slice ca 6 ccap at hcv
  subst hcv
  clear hn hc
  go_enter Tryd.func11, Tryd.ntmps11
  go_wp2_with (first | (go_at_call 23; refine m1.mono ?_; rintro e w1 ⟨rfl, b1⟩; have B1 := hide b1; clear b1) | (go_at_call 24; refine (mF _).mono ?_; rintro e w2_ ⟨rfl, rfl⟩) | (at_builtin; refine wpList_append_nums (by rfl) _ _ (by rfl) w.heap.size 0 _ _ (by rfl) (own_none2 _ _ B1.out.size) _ t.ls (by rfl) (HL.out.on (blw_alloc B1.out _)) (by rw [LEN]; omega) (Nat.le_trans B1.out.size (by simp)) ?_; intro v' w2 hown hgr; have HB2 := hide (below_app2 (blw_alloc B1.out (.cells #[] 2)) (Nat.le_trans B1.out.size (by simp)) (own_none2 _ _ B1.out.size) hgr); have hw2 : ∃ g cap, v' = .slice (some ⟨g, 0, none⟩) 6 cap ∧ w.heap.size ≤ g ∧ 6 ≤ cap ∧ Rw w2 g t.ls := (Rw.of_owns (n := 6) (l := t.ls) (by rw [LEN] at hown; exact hown) (by decide) LEN.symm); obtain ⟨g, cap, rfl, hg2, hc2, hrw⟩ := hw2; have HG2 := hide hg2; have HR := hide hrw; have HC2 := hide hc2; clear hown hgr hg2 hrw hc2) | (go_at_call 26; refine (rctu g cap t _ hv HR.out).mono ?_; rintro e w3 ⟨rfl, hr3, hb3⟩; have R3 := hide hr3; have B3 := hide (HB2.out.trans (hb3.mono HG2.out)); clear hr3 hb3))
  go_ret2
  exact ⟨g, cap, rfl, R3.out, HG2.out, HC2.out, B3.out⟩
set_option maxRecDepth 100000 in
set_option maxHeartbeats 3200000 in
theorem rstep_5 (cv : Value) (t : Cn) (now : Int) (w : World) (hL : ILst w cv t.ls) (hc : chkE 5 t.ls = 0) (hn : nowOk now = true) (hv : -32768 ≤ t.v ∧ t.v ≤ 32767) : Calls Tryd.prog 11 #[.int .i64 5, cv, .int .i64 now] w fun e w' => ∃ g cap, e = .returned (.tuple #[.slice (some ⟨g, 0, none⟩) 6 cap, .int .i64 0]) ∧ Rw w' g (ctdT t).ls ∧ w.heap.size ≤ g ∧ 6 ≤ cap ∧ Below w.heap.size w w' := by
  have m1 := rcheck_any 5 _ _ w hL
  rw [hc] at m1
  have hnn : ¬ now < 0 := by unfold nowOk at hn; simp at hn; omega
  have mF := fun W => fitsR_any 4 now W
  rw [now_fit hn] at mF
  have HN := hide hn
  have HL := hide hL
  obtain ⟨ca, cb, coff, ccap, hcv, -, -⟩ := hL
  have LEN : t.ls.length = 6 := rfl
  change cv = .slice ca 6 ccap at hcv
  subst hcv
  clear hn hc
  go_enter Tryd.func11, Tryd.ntmps11
  go_wp2_with (first | (go_at_call 23; refine m1.mono ?_; rintro e w1 ⟨rfl, b1⟩; have B1 := hide b1; clear b1) | (go_at_call 24; refine (mF _).mono ?_; rintro e w2_ ⟨rfl, rfl⟩) | (at_builtin; refine wpList_append_nums (by rfl) _ _ (by rfl) w.heap.size 0 _ _ (by rfl) (own_none2 _ _ B1.out.size) _ t.ls (by rfl) (HL.out.on (blw_alloc B1.out _)) (by rw [LEN]; omega) (Nat.le_trans B1.out.size (by simp)) ?_; intro v' w2 hown hgr; have HB2 := hide (below_app2 (blw_alloc B1.out (.cells #[] 2)) (Nat.le_trans B1.out.size (by simp)) (own_none2 _ _ B1.out.size) hgr); have hw2 : ∃ g cap, v' = .slice (some ⟨g, 0, none⟩) 6 cap ∧ w.heap.size ≤ g ∧ 6 ≤ cap ∧ Rw w2 g t.ls := (Rw.of_owns (n := 6) (l := t.ls) (by rw [LEN] at hown; exact hown) (by decide) LEN.symm); obtain ⟨g, cap, rfl, hg2, hc2, hrw⟩ := hw2; have HG2 := hide hg2; have HR := hide hrw; have HC2 := hide hc2; clear hown hgr hg2 hrw hc2) | (go_at_call 26; refine (rctd g cap t _ hv HR.out).mono ?_; rintro e w3 ⟨rfl, hr3, hb3⟩; have R3 := hide hr3; have B3 := hide (HB2.out.trans (hb3.mono HG2.out)); clear hr3 hb3))
  go_ret2
  exact ⟨g, cap, rfl, R3.out, HG2.out, HC2.out, B3.out⟩
set_option maxRecDepth 100000 in
set_option maxHeartbeats 3200000 in
theorem rstep_10 (cv : Value) (t : Cd) (now : Int) (w : World) (hL : ILst w cv t.ls) (hc : chkE 10 t.ls = 0) (hn : nowOk now = true) (hv : fitB 3 t.v = true) : Calls Tryd.prog 11 #[.int .i64 10, cv, .int .i64 now] w fun e w' => ∃ g cap, e = .returned (.tuple #[.slice (some ⟨g, 0, none⟩) 6 cap, .int .i64 0]) ∧ Rw w' g (cdT t).ls ∧ w.heap.size ≤ g ∧ 6 ≤ cap ∧ Below w.heap.size w w' := by
  have m1 := rcheck_any 10 _ _ w hL
  rw [hc] at m1
  have hnn : ¬ now < 0 := by unfold nowOk at hn; simp at hn; omega
  have mF := fun W => fitsR_any 4 now W
  rw [now_fit hn] at mF
  have HN := hide hn
  have HL := hide hL
  obtain ⟨ca, cb, coff, ccap, hcv, -, -⟩ := hL
  have LEN : t.ls.length = 6 := rfl
  change cv = .slice ca 6 ccap at hcv
  subst hcv
  clear hn hc
  go_enter Tryd.func11, Tryd.ntmps11
  go_wp2_with (first | (go_at_call 23; refine m1.mono ?_; rintro e w1 ⟨rfl, b1⟩; have B1 := hide b1; clear b1) | (go_at_call 24; refine (mF _).mono ?_; rintro e w2_ ⟨rfl, rfl⟩) | (at_builtin; refine wpList_append_nums (by rfl) _ _ (by rfl) w.heap.size 0 _ _ (by rfl) (own_none2 _ _ B1.out.size) _ t.ls (by rfl) (HL.out.on (blw_alloc B1.out _)) (by rw [LEN]; omega) (Nat.le_trans B1.out.size (by simp)) ?_; intro v' w2 hown hgr; have HB2 := hide (below_app2 (blw_alloc B1.out (.cells #[] 2)) (Nat.le_trans B1.out.size (by simp)) (own_none2 _ _ B1.out.size) hgr); have hw2 : ∃ g cap, v' = .slice (some ⟨g, 0, none⟩) 6 cap ∧ w.heap.size ≤ g ∧ 6 ≤ cap ∧ Rw w2 g t.ls := (Rw.of_owns (n := 6) (l := t.ls) (by rw [LEN] at hown; exact hown) (by decide) LEN.symm); obtain ⟨g, cap, rfl, hg2, hc2, hrw⟩ := hw2; have HG2 := hide hg2; have HR := hide hrw; have HC2 := hide hc2; clear hown hgr hg2 hrw hc2) | (go_at_call 28; refine (rcoder g cap t _ hv HR.out).mono ?_; rintro e w3 ⟨rfl, hr3, hb3⟩; have R3 := hide hr3; have B3 := hide (HB2.out.trans (hb3.mono HG2.out)); clear hr3 hb3))
  go_ret2
  exact ⟨g, cap, rfl, R3.out, HG2.out, HC2.out, B3.out⟩
end Go.Proofs.YthifgfhgkdjkfaaDoor
