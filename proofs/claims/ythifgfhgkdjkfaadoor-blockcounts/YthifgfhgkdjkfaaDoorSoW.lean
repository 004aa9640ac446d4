/- The law's shown. -/
import Derived.Test.YthifgfhgkdjkfaaDoorApW
import Derived.Test.YthifgfhgkdjkfaaDoorEdW
namespace Go.Proofs.YthifgfhgkdjkfaaDoor
open Go.RowKit
theorem cd_row (a b r er : Bool) (v last : Int) (hv : fitB 3 v = true) (hl : fitB 2 last = true) : stepE 10 [flagN a, flagN b, flagN r, v, flagN er, last] 0 = 0 ∧ stepL 10 [flagN a, flagN b, flagN r, v, flagN er, last] 0 = (cdT ⟨a, b, r, v, er, last⟩).ls := by
  refine ⟨stepE_zero.2 ⟨by omega, rfl, ?_, by decide⟩, ?_⟩
  · simp [fitL, fldK, flag_fit, hv, hl]
  · have e : cdL [flagN a, flagN b, flagN r, v, flagN er, last] = ⟨a, b, r, v, er, last⟩ := by simp [cdL, flag_one]
    unfold stepL
    rw [if_neg (by decide), if_neg (by decide), if_neg (by decide), if_neg (by decide), if_neg (by decide), if_neg (by decide), if_neg (by decide), if_neg (by decide), if_neg (by decide), e]
/-- a step of a row that may have room behind -/
theorem step_rw (k : Int) (l m : List Int) (now : Int) (h : stepE k l now = 0) (hm : stepL k l now = m) (g n cap n2 : Nat) (hn : n = l.length) (h2 : m.length = n2) (w : World) (hg : Glo w) (ho : Rw w g l) : Calls Tryd.prog 10 #[.int .i64 k, .slice (some ⟨g, 0, none⟩) n cap, .int .i64 now] w fun e w' => ∃ g2, e = .returned (.tuple #[.slice (some ⟨g2, 0, none⟩) n2 n2, .int .i64 0]) ∧ Ob w' g2 2 (intC m).toArray ∧ w.heap.size ≤ g2 ∧ Below w.heap.size w w' := by
  subst hm
  subst h2
  exact step12_ok k _ l now w (ho.ilst n cap hn) hg h
set_option maxRecDepth 100000 in
set_option maxHeartbeats 3200000 in
theorem shown_any (cv : Value) (x0 x1 x2 v last : Int) (er r : Bool) (n : Nat) (hn : n < 4) (w : World) (hL : ILst w cv [x0, x1, x2, v, flagN er, last]) (hv : fitB 3 v = true) (hl : fitB 2 last = true) (hg : Glo w) :
    Calls Tryd.prog 19 #[cv, .int .i64 (n : Int), .int .i64 (flagN r)] w fun e w' => ∃ g, e = .returned (.slice (some ⟨g, 0, none⟩) 6 6) ∧ Ob w' g 2 (intC (cdT ⟨lnA n, lnB n, r, v, er, last⟩).ls).toArray ∧ w.heap.size ≤ g ∧ Below w.heap.size w w' := by
  have m1 := lines_ok n hn w
  have HG : Hid (∀ W, Below w.heap.size w W → Glo W) := fun W h => hg.below h hg.lt
  have HL := hide hL
  have HC : Hid (∀ a b, stepE 10 [flagN a, flagN b, flagN r, v, flagN er, last] 0 = 0 ∧ stepL 10 [flagN a, flagN b, flagN r, v, flagN er, last] 0 = (cdT ⟨a, b, r, v, er, last⟩).ls) := fun a b => cd_row a b r er v last hv hl
  have HEQ : Hid (∀ W, Below w.heap.size w W → ∀ G g cap, Rw W g [flagN (lnA n), flagN (lnB n), flagN r, v, flagN er, last] → G = cdT ⟨lnA n, lnB n, r, v, er, last⟩ → Calls Tryd.prog 10 #[.int .i64 10, .slice (some ⟨g, 0, none⟩) 6 cap, .int .i64 0] W fun e w' => ∃ g2, e = .returned (.tuple #[.slice (some ⟨g2, 0, none⟩) 6 6, .int .i64 0]) ∧ Ob w' g2 2 (intC G.ls).toArray ∧ W.heap.size ≤ g2 ∧ Below W.heap.size W w') := fun W hb G g cap ho e => by
    subst e
    exact step_rw 10 _ _ 0 (HC.out _ _).1 (HC.out _ _).2 g 6 cap 6 rfl rfl W (HG.out W hb) ho
  obtain ⟨a, b, off, cap, hcv, -, -⟩ := hL
  change cv = .slice a 6 cap at hcv
  subst hcv
  clear hg hv hl HC
  generalize hGd : cdT ⟨lnA n, lnB n, r, v, er, last⟩ = G at *
  clear hGd
  generalize hF : flagN er = Fe at *
  generalize hR : flagN r = Fr at *
  obtain rfl | rfl | rfl | rfl : n = 0 ∨ n = 1 ∨ n = 2 ∨ n = 3 := by omega
  · clear hn
    go_enter Tryd.func19, Tryd.ntmps19
    go_wp2_with (first | (go_at_call 35; refine m1.mono ?_; rintro e w1 ⟨rfl, b1⟩; have B1 := hide b1; clear b1) | (at_builtin; refine wpList_append_nums (by rfl) _ _ (by rfl) w.heap.size 0 _ _ (by rfl) (own_none2 _ _ B1.out.size) _ [x0, x1, x2, v, Fe, last] (by rfl) (HL.out.on (blw_alloc B1.out _)) (by simp only [List.length_cons, List.length_nil]; omega) (Nat.le_trans B1.out.size (by simp)) ?_; intro v' w2 hown hgr; have hb2 := below_app2 (blw_alloc B1.out (.cells #[] 2)) (Nat.le_trans B1.out.size (by simp)) (own_none2 _ _ B1.out.size) hgr; obtain ⟨g, cap2, rfl, hg2, hc2, hrw⟩ := Rw.of_owns (n := 6) (l := [x0, x1, x2, v, Fe, last]) hown (by decide) rfl; have HX : Hid (Rw (((w2.setCell ⟨g, 0, none⟩ (.int .i64 0)).setCell ⟨g, 1, none⟩ (.int .i64 0)).setCell ⟨g, 2, none⟩ (.int .i64 Fr)) g [0, 0, Fr, v, Fe, last] ∧ Below w.heap.size w (((w2.setCell ⟨g, 0, none⟩ (.int .i64 0)).setCell ⟨g, 1, none⟩ (.int .i64 0)).setCell ⟨g, 2, none⟩ (.int .i64 Fr))) := ⟨((hrw.set 0 0 rfl).set 1 0 rfl).set 2 Fr rfl, ((hb2.setCell hg2 _).setCell hg2 _).setCell hg2 _⟩; have f0 := hrw.fr 0; have f1 := hrw.fr 1; have f2 := hrw.fr 2; have c0 := hrw.cell 0 (x := x0) rfl; have c1 := hrw.cell 1 (x := x1) rfl; have c2 := hrw.cell 2 (x := x2) rfl; clear hrw hown hgr hb2) | (go_at_call 10; refine (HEQ.out _ HX.out.2 G g cap2 HX.out.1 rfl).mono ?_; rintro e w3 ⟨g3, rfl, o3, l3, b3⟩; have O3 := hide o3; have L3 := hide l3; have B3 := hide b3; clear o3 l3 b3))
    go_ret
    exact ⟨g3, rfl, O3.out, Nat.le_trans HX.out.2.size L3.out, HX.out.2.trans (B3.out.mono HX.out.2.size)⟩
  · clear hn
    go_enter Tryd.func19, Tryd.ntmps19
    go_wp2_with (first | (go_at_call 35; refine m1.mono ?_; rintro e w1 ⟨rfl, b1⟩; have B1 := hide b1; clear b1) | (at_builtin; refine wpList_append_nums (by rfl) _ _ (by rfl) w.heap.size 0 _ _ (by rfl) (own_none2 _ _ B1.out.size) _ [x0, x1, x2, v, Fe, last] (by rfl) (HL.out.on (blw_alloc B1.out _)) (by simp only [List.length_cons, List.length_nil]; omega) (Nat.le_trans B1.out.size (by simp)) ?_; intro v' w2 hown hgr; have hb2 := below_app2 (blw_alloc B1.out (.cells #[] 2)) (Nat.le_trans B1.out.size (by simp)) (own_none2 _ _ B1.out.size) hgr; obtain ⟨g, cap2, rfl, hg2, hc2, hrw⟩ := Rw.of_owns (n := 6) (l := [x0, x1, x2, v, Fe, last]) hown (by decide) rfl; have HX : Hid (Rw ((((w2.setCell ⟨g, 0, none⟩ (.int .i64 0)).setCell ⟨g, 1, none⟩ (.int .i64 0)).setCell ⟨g, 2, none⟩ (.int .i64 Fr)).setCell ⟨g, 0, none⟩ (.int .i64 1)) g [1, 0, Fr, v, Fe, last] ∧ Below w.heap.size w ((((w2.setCell ⟨g, 0, none⟩ (.int .i64 0)).setCell ⟨g, 1, none⟩ (.int .i64 0)).setCell ⟨g, 2, none⟩ (.int .i64 Fr)).setCell ⟨g, 0, none⟩ (.int .i64 1))) := ⟨(((hrw.set 0 0 rfl).set 1 0 rfl).set 2 Fr rfl).set 0 1 rfl, (((hb2.setCell hg2 _).setCell hg2 _).setCell hg2 _).setCell hg2 _⟩; have f0 := hrw.fr 0; have f1 := hrw.fr 1; have f2 := hrw.fr 2; have c0 := hrw.cell 0 (x := x0) rfl; have c1 := hrw.cell 1 (x := x1) rfl; have c2 := hrw.cell 2 (x := x2) rfl; clear hrw hown hgr hb2) | (go_at_call 10; refine (HEQ.out _ HX.out.2 G g cap2 HX.out.1 rfl).mono ?_; rintro e w3 ⟨g3, rfl, o3, l3, b3⟩; have O3 := hide o3; have L3 := hide l3; have B3 := hide b3; clear o3 l3 b3))
    go_ret
    exact ⟨g3, rfl, O3.out, Nat.le_trans HX.out.2.size L3.out, HX.out.2.trans (B3.out.mono HX.out.2.size)⟩
  · clear hn
    go_enter Tryd.func19, Tryd.ntmps19
    go_wp2_with (first | (go_at_call 35; refine m1.mono ?_; rintro e w1 ⟨rfl, b1⟩; have B1 := hide b1; clear b1) | (at_builtin; refine wpList_append_nums (by rfl) _ _ (by rfl) w.heap.size 0 _ _ (by rfl) (own_none2 _ _ B1.out.size) _ [x0, x1, x2, v, Fe, last] (by rfl) (HL.out.on (blw_alloc B1.out _)) (by simp only [List.length_cons, List.length_nil]; omega) (Nat.le_trans B1.out.size (by simp)) ?_; intro v' w2 hown hgr; have hb2 := below_app2 (blw_alloc B1.out (.cells #[] 2)) (Nat.le_trans B1.out.size (by simp)) (own_none2 _ _ B1.out.size) hgr; obtain ⟨g, cap2, rfl, hg2, hc2, hrw⟩ := Rw.of_owns (n := 6) (l := [x0, x1, x2, v, Fe, last]) hown (by decide) rfl; have HX : Hid (Rw (((((w2.setCell ⟨g, 0, none⟩ (.int .i64 0)).setCell ⟨g, 1, none⟩ (.int .i64 0)).setCell ⟨g, 2, none⟩ (.int .i64 Fr)).setCell ⟨g, 0, none⟩ (.int .i64 1)).setCell ⟨g, 1, none⟩ (.int .i64 1)) g [1, 1, Fr, v, Fe, last] ∧ Below w.heap.size w (((((w2.setCell ⟨g, 0, none⟩ (.int .i64 0)).setCell ⟨g, 1, none⟩ (.int .i64 0)).setCell ⟨g, 2, none⟩ (.int .i64 Fr)).setCell ⟨g, 0, none⟩ (.int .i64 1)).setCell ⟨g, 1, none⟩ (.int .i64 1))) := ⟨((((hrw.set 0 0 rfl).set 1 0 rfl).set 2 Fr rfl).set 0 1 rfl).set 1 1 rfl, ((((hb2.setCell hg2 _).setCell hg2 _).setCell hg2 _).setCell hg2 _).setCell hg2 _⟩; have f0 := hrw.fr 0; have f1 := hrw.fr 1; have f2 := hrw.fr 2; have c0 := hrw.cell 0 (x := x0) rfl; have c1 := hrw.cell 1 (x := x1) rfl; have c2 := hrw.cell 2 (x := x2) rfl; clear hrw hown hgr hb2) | (go_at_call 10; refine (HEQ.out _ HX.out.2 G g cap2 HX.out.1 rfl).mono ?_; rintro e w3 ⟨g3, rfl, o3, l3, b3⟩; have O3 := hide o3; have L3 := hide l3; have B3 := hide b3; clear o3 l3 b3))
    go_ret
    exact ⟨g3, rfl, O3.out, Nat.le_trans HX.out.2.size L3.out, HX.out.2.trans (B3.out.mono HX.out.2.size)⟩
  · clear hn
    go_enter Tryd.func19, Tryd.ntmps19
    go_wp2_with (first | (go_at_call 35; refine m1.mono ?_; rintro e w1 ⟨rfl, b1⟩; have B1 := hide b1; clear b1) | (at_builtin; refine wpList_append_nums (by rfl) _ _ (by rfl) w.heap.size 0 _ _ (by rfl) (own_none2 _ _ B1.out.size) _ [x0, x1, x2, v, Fe, last] (by rfl) (HL.out.on (blw_alloc B1.out _)) (by simp only [List.length_cons, List.length_nil]; omega) (Nat.le_trans B1.out.size (by simp)) ?_; intro v' w2 hown hgr; have hb2 := below_app2 (blw_alloc B1.out (.cells #[] 2)) (Nat.le_trans B1.out.size (by simp)) (own_none2 _ _ B1.out.size) hgr; obtain ⟨g, cap2, rfl, hg2, hc2, hrw⟩ := Rw.of_owns (n := 6) (l := [x0, x1, x2, v, Fe, last]) hown (by decide) rfl; have HX : Hid (Rw ((((w2.setCell ⟨g, 0, none⟩ (.int .i64 0)).setCell ⟨g, 1, none⟩ (.int .i64 0)).setCell ⟨g, 2, none⟩ (.int .i64 Fr)).setCell ⟨g, 1, none⟩ (.int .i64 1)) g [0, 1, Fr, v, Fe, last] ∧ Below w.heap.size w ((((w2.setCell ⟨g, 0, none⟩ (.int .i64 0)).setCell ⟨g, 1, none⟩ (.int .i64 0)).setCell ⟨g, 2, none⟩ (.int .i64 Fr)).setCell ⟨g, 1, none⟩ (.int .i64 1))) := ⟨(((hrw.set 0 0 rfl).set 1 0 rfl).set 2 Fr rfl).set 1 1 rfl, (((hb2.setCell hg2 _).setCell hg2 _).setCell hg2 _).setCell hg2 _⟩; have f0 := hrw.fr 0; have f1 := hrw.fr 1; have f2 := hrw.fr 2; have c0 := hrw.cell 0 (x := x0) rfl; have c1 := hrw.cell 1 (x := x1) rfl; have c2 := hrw.cell 2 (x := x2) rfl; clear hrw hown hgr hb2) | (go_at_call 10; refine (HEQ.out _ HX.out.2 G g cap2 HX.out.1 rfl).mono ?_; rintro e w3 ⟨g3, rfl, o3, l3, b3⟩; have O3 := hide o3; have L3 := hide l3; have B3 := hide b3; clear o3 l3 b3))
    go_ret
    exact ⟨g3, rfl, O3.out, Nat.le_trans HX.out.2.size L3.out, HX.out.2.trans (B3.out.mono HX.out.2.size)⟩
end Go.Proofs.YthifgfhgkdjkfaaDoor
