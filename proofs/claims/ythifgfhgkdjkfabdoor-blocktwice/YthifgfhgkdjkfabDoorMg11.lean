/- block: what a QUAD does. | block: an object of a kind, stepped. -/
import Derived.Test.YthifgfhgkdjkfabDoorMg7
import Derived.Test.YthifgfhgkdjkfabDoorBgW
import Derived.Test.YthifgfhgkdjkfabDoorMg10
namespace Go.Proofs.YthifgfhgkdjkfabDoor
open Go.RowKit Go.Sort
theorem stp_small (m n : Nat) : -1 ≤ stp m n ∧ stp m n ≤ 1 := by unfold stp; repeat' split
                                                                 all_goals omega
theorem stp_fit (m n : Nat) : fitB 3 (stp m n) = true := by
  have h := stp_small m n
  obtain h | h | h : stp m n = -1 ∨ stp m n = 0 ∨ stp m n = 1 := by omega
  all_goals rw [h]; decide
theorem stepV_at {l : Int} (h : 1 ≤ l ∧ l ≤ 4) (n : Nat) (hn : n < 4) : stepV (l - 1) (n : Int) = (stp (l - 1).toNat n, if jmp (l - 1).toNat n then 110 else 0) := by
  unfold stepV
  rw [(isP_iff (l - 1)).2 (by omega), (isP_iff (n : Int)).2 (by omega)]
  rfl
set_option maxRecDepth 100000 in
set_option maxHeartbeats 1600000 in
theorem follow_any (g : Nat) (T : TypeId) (n : Nat) (hn : n < 4) (t : Cd) (w : World) (hg : Glo w) (hl : 1 ≤ t.l ∧ t.l ≤ 4) (hv : fitB 3 t.v = true) (h : Ob w g T t.ob) : Calls Tryd.prog 76 #[.pointer (some ⟨g, 0, none⟩), .int .i64 (n : Int)] w fun e w' => e = .returned (.tuple #[]) ∧ Ob w' g T (folT n t).ob ∧ Below g w w' := by
  obtain ⟨a, b, r, v, er, l⟩ := t
  change 1 ≤ l ∧ l ≤ 4 at hl
  change fitB 3 v = true at hv
  have H : Hid (Ob w g T #[.bool a, .bool b, .bool r, .int .i64 v, .bool er, .int .i64 l]) := h
  have HL := hide h.lt
  clear h
  have m1 := step_any (l - 1) (n : Int) w
  rw [stepV_at hl n hn] at m1
  have m2 : Hid (∀ W, Below w.heap.size w W → Calls Tryd.prog 41 #[.int .i64 1, .int .i64 3, .int .i64 v, .int .i64 (stp (l - 1).toNat n)] W fun e w' => e = .returned (.tuple #[.int .i64 (wrN 3 (v + stp (l - 1).toNat n)), .int .i64 0]) ∧ Below W.heap.size W w') := fun W hb => by
    have := two_any 1 3 v (stp (l - 1).toNat n) W (hg.below hb hg.lt)
    rw [add_two hv (stp_fit _ _)] at this
    exact this
  have l1 : (1 : Int) ≤ l := hl.1
  have l4 : l ≤ 4 := hl.2
  have c5 : w.cell? ⟨g, 5, none⟩ = some (.int .i64 l) := H.out.cell 5 rfl
  have c3 : w.cell? ⟨g, 3, none⟩ = some (.int .i64 v) := H.out.cell 3 rfl
  have E : folT n ⟨a, b, r, v, er, l⟩ = if jmp (l - 1).toNat n then ⟨a, b, r, v, true, l⟩ else ⟨a, b, r, wrN 3 (v + stp (l - 1).toNat n), er, l⟩ := rfl
  rw [E]
  clear E hl hv hg hn
  generalize stp (l - 1).toNat n = S at *
  have HN : ∃ N : Int, N = (n : Int) := ⟨_, rfl⟩
  obtain ⟨N, hN⟩ := HN
  rw [← hN] at m1 ⊢
  clear hN
  cases hj : jmp (l - 1).toNat n
  · rw [hj] at m1
    generalize wrN 3 (v + S) = R at *
    change Calls Tryd.prog 76 _ w fun e w' => e = .returned (.tuple #[]) ∧ Ob w' g T #[.bool a, .bool b, .bool r, .int .i64 R, .bool er, .int .i64 l] ∧ Below g w w'
    go_enter Tryd.func76, Tryd.ntmps76
    go_wp2_with (first | (go_at_call 79; refine m1.mono ?_; rintro e_ w1 ⟨rfl, b1⟩; have B1 := hide b1; clear b1; have d3 : w1.cell? ⟨g, 3, none⟩ = some (.int .i64 v) := (H.out.on B1.out HL.out).cell 3 rfl) | (go_at_call 41; refine (m2.out _ B1.out).mono ?_; rintro e_ w2 ⟨rfl, b2⟩; have B2 := hide (B1.out.trans (b2.mono B1.out.size)); clear b2; have u3 : w2.cell? ⟨g, 3, none⟩ = some (.int .i64 v) := (H.out.on B2.out HL.out).cell 3 rfl; have u4 := (H.out.on B2.out HL.out).fr 3))
    first | exact bodyPost_end (results_none rfl _ _ _) rfl ⟨rfl, (H.out.on B2.out HL.out).set 3 _ rfl, (B2.out.mono (Nat.le_of_lt HL.out)).setCell (Nat.le_refl g) _⟩ | exact bodyPost_ret (results_none rfl _ _ _) rfl ⟨rfl, (H.out.on B2.out HL.out).set 3 _ rfl, (B2.out.mono (Nat.le_of_lt HL.out)).setCell (Nat.le_refl g) _⟩
  · rw [hj] at m1
    change Calls Tryd.prog 76 _ w fun e w' => e = .returned (.tuple #[]) ∧ Ob w' g T #[.bool a, .bool b, .bool r, .int .i64 v, .bool true, .int .i64 l] ∧ Below g w w'
    go_enter Tryd.func76, Tryd.ntmps76
    go_wp2_with (first | (go_at_call 79; refine m1.mono ?_; rintro e_ w1 ⟨rfl, b1⟩; have B1 := hide b1; clear b1; have d3 : w1.cell? ⟨g, 4, none⟩ = some (.bool er) := (H.out.on B1.out HL.out).cell 4 rfl; have d4 := (H.out.on B1.out HL.out).fr 4))
    first | exact bodyPost_end (results_none rfl _ _ _) rfl ⟨rfl, (H.out.on B1.out HL.out).set 4 _ rfl, (B1.out.mono (Nat.le_of_lt HL.out)).setCell (Nat.le_refl g) _⟩ | exact bodyPost_ret (results_none rfl _ _ _) rfl ⟨rfl, (H.out.on B1.out HL.out).set 4 _ rfl, (B1.out.mono (Nat.le_of_lt HL.out)).setCell (Nat.le_refl g) _⟩
set_option maxRecDepth 100000 in
set_option maxHeartbeats 1600000 in
theorem quad_step (g : Nat) (T : TypeId) (now : Int) (t : Cd) (w : World) (hg : Glo w) (h0 : 0 < g) (hv : fitB 3 t.v = true) (h : Ob w g T t.ob) : Calls Tryd.prog 77 #[.pointer (some ⟨g, 0, none⟩), .int .i64 now] w fun e w' => e = .returned (.tuple #[]) ∧ Ob w' g T (cdT t).ob ∧ Below g w w' := by
  have HF : Hid (1 ≤ t.l ∧ t.l ≤ 4 → ∀ W, Below g w W → Ob W g T t.ob → Calls Tryd.prog 76 #[.pointer (some ⟨g, 0, none⟩), .int .i64 ((pn t.a t.b : Nat) : Int)] W fun e w' => e = .returned (.tuple #[]) ∧ Ob w' g T (folT (pn t.a t.b) t).ob ∧ Below g W w') := fun hl W hb ho => follow_any g T _ (pn_lt _ _) t W (hg.below hb h0) hl hv ho
  obtain ⟨a, b, r, v, er, l⟩ := t
  have H : Hid (Ob w g T #[.bool a, .bool b, .bool r, .int .i64 v, .bool er, .int .i64 l]) := h
  have HL := hide h.lt
  have HB : Hid (∀ w', (∃ p : Regrown, w' = grow (redrawn w p.d) p.os) → Below w.heap.size w w') := fun w' h => by
    obtain ⟨p, rfl⟩ := h
    exact below_regrown w p.d p.os
  have c : ∀ dd os, Calls Tryd.prog 78 #[.bool a, .bool b] (grow (redrawn w dd) os) fun e w2 => e = .returned (.int .i64 ((pn a b : Nat) : Int)) ∧ ∃ q : Regrown, w2 = grow (redrawn w q.d) q.os := fun dd os => Calls.regrown_of (place_any _ _ _)
  have hp : ((pn a b : Nat) : Int) ≤ 3 := by have := pn_lt a b; omega
  have hp0 : (0 : Int) ≤ ((pn a b : Nat) : Int) := by omega
  clear h hg h0 hv
  cases r
  · by_cases hl : 1 ≤ l ∧ l ≤ 4
    · have E : cdT ⟨a, b, false, v, er, l⟩ = lst5 (pn a b) (folT (pn a b) ⟨a, b, false, v, er, l⟩) := by unfold cdT; simp [hl]
      rw [E]
      clear E
      have mF : Hid (∀ W, Below g w W → Ob W g T #[.bool a, .bool b, .bool false, .int .i64 v, .bool er, .int .i64 l] → Calls Tryd.prog 76 #[.pointer (some ⟨g, 0, none⟩), .int .i64 ((pn a b : Nat) : Int)] W fun e w' => e = .returned (.tuple #[]) ∧ Ob w' g T (folT (pn a b) ⟨a, b, false, v, er, l⟩).ob ∧ Below g W w') := HF.out hl
      obtain ⟨l1, l4⟩ := hl
      clear HF
      unfold lst5
      generalize folT (pn a b) ⟨a, b, false, v, er, l⟩ = t2 at *
      obtain ⟨a2, b2, r2, v2, e2, l2⟩ := t2
      generalize ((pn a b : Nat) : Int) = PN at *
      have y0 : ∀ dd os, (grow (redrawn w dd) os).cell? ⟨g, 0, none⟩ = some (.bool a) := cell_regrown (H.out.cell 0 rfl)
      have y1 : ∀ dd os, (grow (redrawn w dd) os).cell? ⟨g, 1, none⟩ = some (.bool b) := cell_regrown (H.out.cell 1 rfl)
      go_enter Tryd.func77, Tryd.ntmps77
      go_wp2_with fail
      refine wp_region_quiet_below (by kernel_rfl) (by kernel_rfl) ?_
      repeat (go_big_quiet_step (first | (go_at_call 78; with_reducible exact c _ _)))
      refine wpQuiet_nil ?_
      intro w1 hw'
      have B1 : Hid (Below w.heap.size w w1) := HB.out w1 hw'
      have H1 := hide (H.out.on B1.out HL.out)
      clear hw' y0 y1 c
      have d0 : w1.cell? ⟨g, 0, none⟩ = some (.bool a) := H1.out.cell 0 rfl
      have df0 := H1.out.fr 0
      have d1 : w1.cell? ⟨g, 1, none⟩ = some (.bool b) := H1.out.cell 1 rfl
      have df1 := H1.out.fr 1
      have d2 : w1.cell? ⟨g, 2, none⟩ = some (.bool false) := H1.out.cell 2 rfl
      have df2 := H1.out.fr 2
      have d3 : w1.cell? ⟨g, 3, none⟩ = some (.int .i64 v) := H1.out.cell 3 rfl
      have df3 := H1.out.fr 3
      have d4 : w1.cell? ⟨g, 4, none⟩ = some (.bool er) := H1.out.cell 4 rfl
      have df4 := H1.out.fr 4
      have d5 : w1.cell? ⟨g, 5, none⟩ = some (.int .i64 l) := H1.out.cell 5 rfl
      have df5 := H1.out.fr 5
      go_wp2_with (first | (go_at_call 76; refine (mF.out w1 (B1.out.mono (Nat.le_of_lt HL.out)) H1.out).mono ?_; rintro e_ w2 ⟨rfl, o2, b2⟩; have O2 := hide o2; have B2 := hide b2; clear o2 b2; have u5 : w2.cell? ⟨g, 5, none⟩ = some (.int .i64 l2) := O2.out.cell 5 rfl; have uf5 := O2.out.fr 5))
      first | exact bodyPost_end (results_none rfl _ _ _) rfl ⟨rfl, O2.out.set 5 _ rfl, ((B1.out.mono (Nat.le_of_lt HL.out)).trans B2.out).setCell (Nat.le_refl g) _⟩ | exact bodyPost_ret (results_none rfl _ _ _) rfl ⟨rfl, O2.out.set 5 _ rfl, ((B1.out.mono (Nat.le_of_lt HL.out)).trans B2.out).setCell (Nat.le_refl g) _⟩
    · have E : cdT ⟨a, b, false, v, er, l⟩ = lst5 (pn a b) ⟨a, b, false, v, er, l⟩ := by unfold cdT; simp [hl]
      rw [E]
      clear E HF
      unfold lst5
      generalize ((pn a b : Nat) : Int) = PN at *
      by_cases l1 : 1 ≤ l
      · have l4 : ¬ l ≤ 4 := fun h => hl ⟨l1, h⟩
        clear hl
        have y0 : ∀ dd os, (grow (redrawn w dd) os).cell? ⟨g, 0, none⟩ = some (.bool a) := cell_regrown (H.out.cell 0 rfl)
        have y1 : ∀ dd os, (grow (redrawn w dd) os).cell? ⟨g, 1, none⟩ = some (.bool b) := cell_regrown (H.out.cell 1 rfl)
        go_enter Tryd.func77, Tryd.ntmps77
        go_wp2_with fail
        refine wp_region_quiet_below (by kernel_rfl) (by kernel_rfl) ?_
        repeat (go_big_quiet_step (first | (go_at_call 78; with_reducible exact c _ _)))
        refine wpQuiet_nil ?_
        intro w1 hw'
        have B1 : Hid (Below w.heap.size w w1) := HB.out w1 hw'
        have H1 := hide (H.out.on B1.out HL.out)
        clear hw' y0 y1 c
        have d0 : w1.cell? ⟨g, 0, none⟩ = some (.bool a) := H1.out.cell 0 rfl
        have df0 := H1.out.fr 0
        have d1 : w1.cell? ⟨g, 1, none⟩ = some (.bool b) := H1.out.cell 1 rfl
        have df1 := H1.out.fr 1
        have d2 : w1.cell? ⟨g, 2, none⟩ = some (.bool false) := H1.out.cell 2 rfl
        have df2 := H1.out.fr 2
        have d3 : w1.cell? ⟨g, 3, none⟩ = some (.int .i64 v) := H1.out.cell 3 rfl
        have df3 := H1.out.fr 3
        have d4 : w1.cell? ⟨g, 4, none⟩ = some (.bool er) := H1.out.cell 4 rfl
        have df4 := H1.out.fr 4
        have d5 : w1.cell? ⟨g, 5, none⟩ = some (.int .i64 l) := H1.out.cell 5 rfl
        have df5 := H1.out.fr 5
        go_wp2
        first | exact bodyPost_end (results_none rfl _ _ _) rfl ⟨rfl, H1.out.set 5 _ rfl, (B1.out.mono (Nat.le_of_lt HL.out)).setCell (Nat.le_refl g) _⟩ | exact bodyPost_ret (results_none rfl _ _ _) rfl ⟨rfl, H1.out.set 5 _ rfl, (B1.out.mono (Nat.le_of_lt HL.out)).setCell (Nat.le_refl g) _⟩
      · clear hl
        have y0 : ∀ dd os, (grow (redrawn w dd) os).cell? ⟨g, 0, none⟩ = some (.bool a) := cell_regrown (H.out.cell 0 rfl)
        have y1 : ∀ dd os, (grow (redrawn w dd) os).cell? ⟨g, 1, none⟩ = some (.bool b) := cell_regrown (H.out.cell 1 rfl)
        go_enter Tryd.func77, Tryd.ntmps77
        go_wp2_with fail
        refine wp_region_quiet_below (by kernel_rfl) (by kernel_rfl) ?_
        repeat (go_big_quiet_step (first | (go_at_call 78; with_reducible exact c _ _)))
        refine wpQuiet_nil ?_
        intro w1 hw'
        have B1 : Hid (Below w.heap.size w w1) := HB.out w1 hw'
        have H1 := hide (H.out.on B1.out HL.out)
        clear hw' y0 y1 c
        have d0 : w1.cell? ⟨g, 0, none⟩ = some (.bool a) := H1.out.cell 0 rfl
        have df0 := H1.out.fr 0
        have d1 : w1.cell? ⟨g, 1, none⟩ = some (.bool b) := H1.out.cell 1 rfl
        have df1 := H1.out.fr 1
        have d2 : w1.cell? ⟨g, 2, none⟩ = some (.bool false) := H1.out.cell 2 rfl
        have df2 := H1.out.fr 2
        have d3 : w1.cell? ⟨g, 3, none⟩ = some (.int .i64 v) := H1.out.cell 3 rfl
        have df3 := H1.out.fr 3
        have d4 : w1.cell? ⟨g, 4, none⟩ = some (.bool er) := H1.out.cell 4 rfl
        have df4 := H1.out.fr 4
        have d5 : w1.cell? ⟨g, 5, none⟩ = some (.int .i64 l) := H1.out.cell 5 rfl
        have df5 := H1.out.fr 5
        go_wp2
        first | exact bodyPost_end (results_none rfl _ _ _) rfl ⟨rfl, H1.out.set 5 _ rfl, (B1.out.mono (Nat.le_of_lt HL.out)).setCell (Nat.le_refl g) _⟩ | exact bodyPost_ret (results_none rfl _ _ _) rfl ⟨rfl, H1.out.set 5 _ rfl, (B1.out.mono (Nat.le_of_lt HL.out)).setCell (Nat.le_refl g) _⟩
  · have E : cdT ⟨a, b, true, v, er, l⟩ = lst5 (pn a b) ⟨a, b, true, 0, false, l⟩ := by unfold cdT; simp
    rw [E]
    clear E HF
    unfold lst5
    generalize ((pn a b : Nat) : Int) = PN at *
    have y0 : ∀ dd os, (grow (redrawn w dd) os).cell? ⟨g, 0, none⟩ = some (.bool a) := cell_regrown (H.out.cell 0 rfl)
    have y1 : ∀ dd os, (grow (redrawn w dd) os).cell? ⟨g, 1, none⟩ = some (.bool b) := cell_regrown (H.out.cell 1 rfl)
    go_enter Tryd.func77, Tryd.ntmps77
    go_wp2_with fail
    refine wp_region_quiet_below (by kernel_rfl) (by kernel_rfl) ?_
    repeat (go_big_quiet_step (first | (go_at_call 78; with_reducible exact c _ _)))
    refine wpQuiet_nil ?_
    intro w1 hw'
    have B1 : Hid (Below w.heap.size w w1) := HB.out w1 hw'
    have H1 := hide (H.out.on B1.out HL.out)
    clear hw' y0 y1 c
    have d0 : w1.cell? ⟨g, 0, none⟩ = some (.bool a) := H1.out.cell 0 rfl
    have df0 := H1.out.fr 0
    have d1 : w1.cell? ⟨g, 1, none⟩ = some (.bool b) := H1.out.cell 1 rfl
    have df1 := H1.out.fr 1
    have d2 : w1.cell? ⟨g, 2, none⟩ = some (.bool true) := H1.out.cell 2 rfl
    have df2 := H1.out.fr 2
    have d3 : w1.cell? ⟨g, 3, none⟩ = some (.int .i64 v) := H1.out.cell 3 rfl
    have df3 := H1.out.fr 3
    have d4 : w1.cell? ⟨g, 4, none⟩ = some (.bool er) := H1.out.cell 4 rfl
    have df4 := H1.out.fr 4
    have d5 : w1.cell? ⟨g, 5, none⟩ = some (.int .i64 l) := H1.out.cell 5 rfl
    have df5 := H1.out.fr 5
    go_wp2
    first | exact bodyPost_end (results_none rfl _ _ _) rfl ⟨rfl, ((H1.out.set 3 _ rfl).set 4 _ rfl).set 5 _ rfl, (((B1.out.mono (Nat.le_of_lt HL.out)).setCell (Nat.le_refl g) _).setCell (Nat.le_refl g) _).setCell (Nat.le_refl g) _⟩ | exact bodyPost_ret (results_none rfl _ _ _) rfl ⟨rfl, ((H1.out.set 3 _ rfl).set 4 _ rfl).set 5 _ rfl, (((B1.out.mono (Nat.le_of_lt HL.out)).setCell (Nat.le_refl g) _).setCell (Nat.le_refl g) _).setCell (Nat.le_refl g) _⟩
end Go.Proofs.YthifgfhgkdjkfabDoor
namespace Go.Proofs.YthifgfhgkdjkfabDoor
open Go.RowKit
/-- a new row of numbers -/
def NewL (w : World) (l : List Int) (e : Ending) (w' : World) : Prop := ∃ g, e = .returned (.slice (some ⟨g, 0, none⟩) l.length l.length) ∧ Ob w' g 2 (intC l).toArray ∧ w.heap.size ≤ g ∧ Below w.heap.size w w'
set_option maxRecDepth 100000 in
theorem ms_1 (g : Nat) (w : World) : (method 248 54 (.pointer (some ⟨g, 0, none⟩)) "capstan/block.step").run Tryd.prog w = .ok (38, .pointer (some ⟨g, 0, none⟩)) w := by rfl
set_option maxRecDepth 100000 in
theorem mc_1 (g : Nat) (w : World) : (method 248 54 (.pointer (some ⟨g, 0, none⟩)) "capstan/block.cells").run Tryd.prog w = .ok (37, .pointer (some ⟨g, 0, none⟩)) w := by rfl
set_option maxRecDepth 100000 in
set_option maxHeartbeats 1600000 in
theorem blockOf_1 (b off cap : Nat) (x0 x1 x2 x3 x4 x5 : Int) (w : World) (mO : Calls Tryd.prog 16 #[.slice (some ⟨b, off, none⟩) 6 cap] w fun e w' => e = .returned (.agg #[.bool (x0 == 1), .int .i64 x1, .bool (x2 == 1), .int .i64 x3, .int .i64 x4, .bool (x5 == 1)]) ∧ Below w.heap.size w w') :
    Calls Tryd.prog 14 #[.int .i64 1, .slice (some ⟨b, off, none⟩) 6 cap] w fun e w' => ∃ g, e = .returned (.iface 54 (.pointer (some ⟨g, 0, none⟩))) ∧ Ob w' g 59 (Tm.mk (x0 == 1) x1 (x2 == 1) x3 x4 (x5 == 1)).ob ∧ w.heap.size ≤ g ∧ Below w.heap.size w w' := by
  go_enter Tryd.func14, Tryd.ntmps14
  go_wp2_with (first | (go_at_call 16; refine mO.mono ?_; rintro e w1 ⟨rfl, b1⟩; have B1 := hide b1; clear b1))
  go_ret
  exact ⟨w1.heap.size, rfl, Ob.new _ _ _, B1.out.size, B1.out.alloc B1.out.size _⟩
set_option maxRecDepth 100000 in
set_option maxHeartbeats 1600000 in
theorem stepO_1 (v : Value) (t : Tm) (now : Int) (w : World) (mO : Calls Tryd.prog 14 #[.int .i64 1, v] w fun e w' => ∃ g, e = .returned (.iface 54 (.pointer (some ⟨g, 0, none⟩))) ∧ Ob w' g 59 t.ob ∧ w.heap.size ≤ g ∧ Below w.heap.size w w') (hg : Glo w) (hn : fitB 4 now = true) (hs : fitB 4 t.s = true) :
    Calls Tryd.prog 12 #[.int .i64 1, v, .int .i64 now] w (NewL w (tonT now t).ls) := by
  have q1 := ms_1
  have q2 := mc_1
  have HG := hide hg
  have HN := hide hn
  have HS := hide hs
  clear hg hn hs
  go_enter Tryd.func12, Tryd.ntmps12
  go_wp2_with (first | (go_at_call 14; refine mO.mono ?_; rintro e w1 ⟨g, rfl, o1, l1, b1⟩; have B1 := hide b1; have O1 := hide o1; have L1 := hide l1; clear b1 o1 l1) | (go_at_call 38; refine (ton_step g 59 now t w1 (HG.out.below B1.out HG.out.lt) (Nat.lt_of_lt_of_le HG.out.lt L1.out) HN.out HS.out O1.out).mono ?_; rintro e w2 ⟨rfl, o2, b2⟩; have B2 := hide b2; have O2 := hide o2; clear b2 o2) | (go_at_call 37; refine (cells72 g _ _ _ _ _ _ 59 w2 O2.out).mono ?_; rintro e w3 ⟨rfl, rfl⟩))
  have B3 := B1.out.trans (B2.out.mono L1.out)
  go_ret
  exact ⟨w2.heap.size, rfl, Ob.new _ _ _, B3.size, (B3.alloc B3.size _).drew⟩
theorem stepped_1 (b off cap : Nat) (x0 x1 x2 x3 x4 x5 : Int) (now : Int) (w : World) (c0 : w.cell? ⟨b, off, none⟩ = some (.int .i64 x0)) (c1 : w.cell? ⟨b, off + 1, none⟩ = some (.int .i64 x1)) (c2 : w.cell? ⟨b, off + 2, none⟩ = some (.int .i64 x2)) (c3 : w.cell? ⟨b, off + 3, none⟩ = some (.int .i64 x3)) (c4 : w.cell? ⟨b, off + 4, none⟩ = some (.int .i64 x4)) (c5 : w.cell? ⟨b, off + 5, none⟩ = some (.int .i64 x5)) (hg : Glo w) (hn : fitB 4 now = true) (hs : fitB 4 x4 = true) :
    Calls Tryd.prog 12 #[.int .i64 1, .slice (some ⟨b, off, none⟩) 6 cap, .int .i64 now] w (NewL w (tonT now (Tm.mk (x0 == 1) x1 (x2 == 1) x3 x4 (x5 == 1))).ls) :=
  stepO_1 _ _ now w (blockOf_1 b off cap x0 x1 x2 x3 x4 x5 w (timerOf_any b off cap x0 x1 x2 x3 x4 x5 w c0 c1 c2 c3 c4 c5)) hg hn hs
end Go.Proofs.YthifgfhgkdjkfabDoor
