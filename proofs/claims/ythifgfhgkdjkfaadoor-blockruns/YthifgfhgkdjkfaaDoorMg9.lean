/- block: timers step. | block: what a TON does. | block: what a TOF and a TP do. -/
import Derived.Test.YthifgfhgkdjkfaaDoorMg7
import Derived.Test.YthifgfhgkdjkfaaDoorMg8
namespace Go.Proofs.YthifgfhgkdjkfaaDoor
open Go.RowKit
set_option maxRecDepth 100000 in
set_option maxHeartbeats 1600000 in
theorem begin_any (g : Nat) (T : TypeId) (x0 x1 x2 x3 x4 x5 : Value) (now : Int) (w : World) (h : Ob w g T #[x0, x1, x2, x3, x4, x5]) : Calls Tryd.prog 71 #[.pointer (some ⟨g, 0, none⟩), .int .i64 now] w fun e w' => e = .returned (.tuple #[]) ∧ Ob w' g T #[x0, x1, x2, x3, .int .i64 now, .bool true] ∧ Below g w w' := by
  have c4 : w.cell? ⟨g, 4, none⟩ = some x4 := h.cell 4 rfl
  have c5 : w.cell? ⟨g, 5, none⟩ = some x5 := h.cell 5 rfl
  have f4 := h.fr 4
  have f5 := h.fr 5
  have HH : Hid (Ob ((w.setCell ⟨g, 4, none⟩ (.int .i64 now)).setCell ⟨g, 5, none⟩ (.bool true)) g T #[x0, x1, x2, x3, .int .i64 now, .bool true] ∧ Below g w ((w.setCell ⟨g, 4, none⟩ (.int .i64 now)).setCell ⟨g, 5, none⟩ (.bool true))) := ⟨(h.set 4 _ rfl).set 5 _ rfl, ((Below.refl g w).setCell (Nat.le_refl g) _).setCell (Nat.le_refl g) _⟩
  clear h
  go_enter Tryd.func71, Tryd.ntmps71
  go_wp2
  exact bodyPost_end (results_none rfl _ _ _) rfl ⟨rfl, HH.out⟩
set_option maxRecDepth 100000 in
set_option maxHeartbeats 1600000 in
theorem elapse_any (g : Nat) (T : TypeId) (x0 x2 x3 x5 : Value) (p s now : Int) (w : World) (hg : Glo w) (h1 : fitB 4 now = true) (h2 : fitB 4 s = true) (h : Ob w g T #[x0, .int .i64 p, x2, x3, .int .i64 s, x5]) : Calls Tryd.prog 75 #[.pointer (some ⟨g, 0, none⟩), .int .i64 now] w fun e w' => e = .returned (.bool (decide (p ≤ goneN now s))) ∧ Ob w' g T #[x0, .int .i64 p, x2, .int .i64 (min (goneN now s) p), .int .i64 s, x5] ∧ Below g w w' := by
  have m1 := two_any 2 4 now s w hg
  rw [gone_two h1 h2] at m1
  have c4 : w.cell? ⟨g, 4, none⟩ = some (.int .i64 s) := h.cell 4 rfl
  have HK : Hid (∀ w1, Below w.heap.size w w1 → Ob w1 g T #[x0, .int .i64 p, x2, x3, .int .i64 s, x5]) := fun w1 hb => h.on hb h.lt
  have HL := hide h.lt
  clear h1 h2 hg h
  generalize goneN now s = G at *
  by_cases h : p ≤ G
  · have e1 : min G p = p := Int.min_eq_right h
    rw [e1, decide_eq_true h]
    have e2 : ∀ (ts : Array TypeId) (t : TypeId) (W : World), (Builtin.min_ ts t #[.int .i64 G, .int .i64 p]).run Tryd.prog W = .ok (.int .i64 p) W := fun ts t W => by rw [run_min_int2]; exact congrArg (fun z => Result.ok (Value.int .i64 z) W) (by split <;> omega)
    clear e1
    have hd := decide_eq_true h
    clear h
    go_enter Tryd.func75, Tryd.ntmps75
    go_wp2_with (first | (go_at_call 76; refine m1.mono ?_; rintro e w1 ⟨rfl, hb1⟩; have HB := hide hb1; clear hb1; have d1 : w1.cell? ⟨g, 1, none⟩ = some (.int .i64 p) := (HK.out w1 HB.out).cell 1 rfl; have d3 : w1.cell? ⟨g, 3, none⟩ = some x3 := (HK.out w1 HB.out).cell 3 rfl; have d4 := (HK.out w1 HB.out).fr 3))
    go_ret
    exact ⟨by first | rfl | (show Ending.returned (.bool (decide (p ≤ G))) = _; rw [hd]), (HK.out w1 HB.out).set 3 _ rfl, (HB.out.mono (Nat.le_of_lt HL.out)).setCell (Nat.le_refl g) _⟩
  · have e1 : min G p = G := Int.min_eq_left (by omega)
    rw [e1, decide_eq_false h]
    have e2 : ∀ (ts : Array TypeId) (t : TypeId) (W : World), (Builtin.min_ ts t #[.int .i64 G, .int .i64 p]).run Tryd.prog W = .ok (.int .i64 G) W := fun ts t W => by rw [run_min_int2]; exact congrArg (fun z => Result.ok (Value.int .i64 z) W) (by split <;> omega)
    clear e1
    have hd := decide_eq_false h
    clear h
    go_enter Tryd.func75, Tryd.ntmps75
    go_wp2_with (first | (go_at_call 76; refine m1.mono ?_; rintro e w1 ⟨rfl, hb1⟩; have HB := hide hb1; clear hb1; have d1 : w1.cell? ⟨g, 1, none⟩ = some (.int .i64 p) := (HK.out w1 HB.out).cell 1 rfl; have d3 : w1.cell? ⟨g, 3, none⟩ = some x3 := (HK.out w1 HB.out).cell 3 rfl; have d4 := (HK.out w1 HB.out).fr 3))
    go_ret
    exact ⟨by first | rfl | (show Ending.returned (.bool (decide (p ≤ G))) = _; rw [hd]), (HK.out w1 HB.out).set 3 _ rfl, (HB.out.mono (Nat.le_of_lt HL.out)).setCell (Nat.le_refl g) _⟩
end Go.Proofs.YthifgfhgkdjkfaaDoor
namespace Go.Proofs.YthifgfhgkdjkfaaDoor
open Go.RowKit
set_option maxRecDepth 100000 in
set_option maxHeartbeats 1600000 in
theorem ton_step (g : Nat) (T : TypeId) (now : Int) (t : Tm) (w : World) (hg : Glo w) (h0 : 0 < g) (hn : fitB 4 now = true) (hs : fitB 4 t.s = true) (h : Ob w g T t.ob) : Calls Tryd.prog 73 #[.pointer (some ⟨g, 0, none⟩), .int .i64 now] w fun e w' => e = .returned (.tuple #[]) ∧ Ob w' g T (tonT now t).ob ∧ Below g w w' := by
  obtain ⟨i, p, q, e, s, r⟩ := t
  change fitB 4 s = true at hs
  have H := hide h
  cases i
  · change Ob w g T #[.bool false, .int .i64 p, .bool q, .int .i64 e, .int .i64 s, .bool r] at h
    have H := hide h
    have c0 : w.cell? ⟨g, 0, none⟩ = some (.bool false) := (H.out).cell 0 rfl; have cf0 := (H.out).fr 0; have c1 : w.cell? ⟨g, 1, none⟩ = some (.int .i64 p) := (H.out).cell 1 rfl; have cf1 := (H.out).fr 1; have c2 : w.cell? ⟨g, 2, none⟩ = some (.bool q) := (H.out).cell 2 rfl; have cf2 := (H.out).fr 2; have c3 : w.cell? ⟨g, 3, none⟩ = some (.int .i64 e) := (H.out).cell 3 rfl; have cf3 := (H.out).fr 3; have c4 : w.cell? ⟨g, 4, none⟩ = some (.int .i64 s) := (H.out).cell 4 rfl; have cf4 := (H.out).fr 4; have c5 : w.cell? ⟨g, 5, none⟩ = some (.bool r) := (H.out).cell 5 rfl; have cf5 := (H.out).fr 5
    clear h hg hn hs
    go_enter Tryd.func73, Tryd.ntmps73
    go_wp2
    first | exact bodyPost_end (results_none rfl _ _ _) rfl ⟨rfl, ((H.out.set 2 _ rfl).set 3 _ rfl).set 5 _ rfl, (((Below.refl g w).setCell (Nat.le_refl g) _).setCell (Nat.le_refl g) _).setCell (Nat.le_refl g) _⟩ | exact bodyPost_ret (results_none rfl _ _ _) rfl ⟨rfl, ((H.out.set 2 _ rfl).set 3 _ rfl).set 5 _ rfl, (((Below.refl g w).setCell (Nat.le_refl g) _).setCell (Nat.le_refl g) _).setCell (Nat.le_refl g) _⟩
  · cases r
    · change Ob w g T #[.bool true, .int .i64 p, .bool q, .int .i64 e, .int .i64 s, .bool false] at h
      have H := hide h
      have c0 : w.cell? ⟨g, 0, none⟩ = some (.bool true) := (H.out).cell 0 rfl; have cf0 := (H.out).fr 0; have c1 : w.cell? ⟨g, 1, none⟩ = some (.int .i64 p) := (H.out).cell 1 rfl; have cf1 := (H.out).fr 1; have c2 : w.cell? ⟨g, 2, none⟩ = some (.bool q) := (H.out).cell 2 rfl; have cf2 := (H.out).fr 2; have c3 : w.cell? ⟨g, 3, none⟩ = some (.int .i64 e) := (H.out).cell 3 rfl; have cf3 := (H.out).fr 3; have c4 : w.cell? ⟨g, 4, none⟩ = some (.int .i64 s) := (H.out).cell 4 rfl; have cf4 := (H.out).fr 4; have c5 : w.cell? ⟨g, 5, none⟩ = some (.bool false) := (H.out).cell 5 rfl; have cf5 := (H.out).fr 5
      have mB := begin_any g T _ _ _ _ _ _ now w h
      have mE : Hid (∀ W, Below g w W → Ob W g T #[.bool true, .int .i64 p, .bool q, .int .i64 e, .int .i64 now, .bool true] → Calls Tryd.prog 75 #[.pointer (some ⟨g, 0, none⟩), .int .i64 now] W fun e w' => e = .returned (.bool (decide (p ≤ goneN now now))) ∧ Ob w' g T #[.bool true, .int .i64 p, .bool q, .int .i64 (min (goneN now now) p), .int .i64 now, .bool true] ∧ Below g W w') := fun W hb ho => elapse_any g T _ _ _ _ p now now W (hg.below hb h0) hn hn ho
      clear h hg hn hs
      go_enter Tryd.func73, Tryd.ntmps73
      go_wp2_with (first | (go_at_call 71; refine mB.mono ?_; rintro e_ w1 ⟨rfl, o1, b1⟩; have O1 := hide o1; have B1 := hide b1; clear o1 b1; have u0 : w1.cell? ⟨g, 0, none⟩ = some (.bool true) := (O1.out).cell 0 rfl; have uf0 := (O1.out).fr 0; have u1 : w1.cell? ⟨g, 1, none⟩ = some (.int .i64 p) := (O1.out).cell 1 rfl; have uf1 := (O1.out).fr 1; have u2 : w1.cell? ⟨g, 2, none⟩ = some (.bool q) := (O1.out).cell 2 rfl; have uf2 := (O1.out).fr 2; have u3 : w1.cell? ⟨g, 3, none⟩ = some (.int .i64 e) := (O1.out).cell 3 rfl; have uf3 := (O1.out).fr 3; have u4 : w1.cell? ⟨g, 4, none⟩ = some (.int .i64 now) := (O1.out).cell 4 rfl; have uf4 := (O1.out).fr 4; have u5 : w1.cell? ⟨g, 5, none⟩ = some (.bool true) := (O1.out).cell 5 rfl; have uf5 := (O1.out).fr 5) | (go_at_call 75; refine (mE.out w1 B1.out O1.out).mono ?_; rintro e_ w2 ⟨rfl, o2, b2⟩; have O2 := hide o2; have B2 := hide b2; clear o2 b2; have d0 : w2.cell? ⟨g, 0, none⟩ = some (.bool true) := (O2.out).cell 0 rfl; have df0 := (O2.out).fr 0; have d1 : w2.cell? ⟨g, 1, none⟩ = some (.int .i64 p) := (O2.out).cell 1 rfl; have df1 := (O2.out).fr 1; have d2 : w2.cell? ⟨g, 2, none⟩ = some (.bool q) := (O2.out).cell 2 rfl; have df2 := (O2.out).fr 2; have d3 : w2.cell? ⟨g, 3, none⟩ = some (.int .i64 (min (goneN now now) p)) := (O2.out).cell 3 rfl; have df3 := (O2.out).fr 3; have d4 : w2.cell? ⟨g, 4, none⟩ = some (.int .i64 now) := (O2.out).cell 4 rfl; have df4 := (O2.out).fr 4; have d5 : w2.cell? ⟨g, 5, none⟩ = some (.bool true) := (O2.out).cell 5 rfl; have df5 := (O2.out).fr 5))
      first | exact bodyPost_end (results_none rfl _ _ _) rfl ⟨rfl, O2.out.set 2 _ rfl, (B1.out.trans B2.out).setCell (Nat.le_refl g) _⟩ | exact bodyPost_ret (results_none rfl _ _ _) rfl ⟨rfl, O2.out.set 2 _ rfl, (B1.out.trans B2.out).setCell (Nat.le_refl g) _⟩
    · change Ob w g T #[.bool true, .int .i64 p, .bool q, .int .i64 e, .int .i64 s, .bool true] at h
      have H := hide h
      have c0 : w.cell? ⟨g, 0, none⟩ = some (.bool true) := (H.out).cell 0 rfl; have cf0 := (H.out).fr 0; have c1 : w.cell? ⟨g, 1, none⟩ = some (.int .i64 p) := (H.out).cell 1 rfl; have cf1 := (H.out).fr 1; have c2 : w.cell? ⟨g, 2, none⟩ = some (.bool q) := (H.out).cell 2 rfl; have cf2 := (H.out).fr 2; have c3 : w.cell? ⟨g, 3, none⟩ = some (.int .i64 e) := (H.out).cell 3 rfl; have cf3 := (H.out).fr 3; have c4 : w.cell? ⟨g, 4, none⟩ = some (.int .i64 s) := (H.out).cell 4 rfl; have cf4 := (H.out).fr 4; have c5 : w.cell? ⟨g, 5, none⟩ = some (.bool true) := (H.out).cell 5 rfl; have cf5 := (H.out).fr 5
      have mE : Hid (∀ W, Below g w W → Ob W g T #[.bool true, .int .i64 p, .bool q, .int .i64 e, .int .i64 s, .bool true] → Calls Tryd.prog 75 #[.pointer (some ⟨g, 0, none⟩), .int .i64 now] W fun e w' => e = .returned (.bool (decide (p ≤ goneN now s))) ∧ Ob w' g T #[.bool true, .int .i64 p, .bool q, .int .i64 (min (goneN now s) p), .int .i64 s, .bool true] ∧ Below g W w') := fun W hb ho => elapse_any g T _ _ _ _ p s now W (hg.below hb h0) hn hs ho
      clear h hg hn hs
      go_enter Tryd.func73, Tryd.ntmps73
      go_wp2_with (first | (go_at_call 75; refine (mE.out w (Below.refl g w) H.out).mono ?_; rintro e_ w1 ⟨rfl, o1, b1⟩; have O1 := hide o1; have B1 := hide b1; clear o1 b1; have d0 : w1.cell? ⟨g, 0, none⟩ = some (.bool true) := (O1.out).cell 0 rfl; have df0 := (O1.out).fr 0; have d1 : w1.cell? ⟨g, 1, none⟩ = some (.int .i64 p) := (O1.out).cell 1 rfl; have df1 := (O1.out).fr 1; have d2 : w1.cell? ⟨g, 2, none⟩ = some (.bool q) := (O1.out).cell 2 rfl; have df2 := (O1.out).fr 2; have d3 : w1.cell? ⟨g, 3, none⟩ = some (.int .i64 (min (goneN now s) p)) := (O1.out).cell 3 rfl; have df3 := (O1.out).fr 3; have d4 : w1.cell? ⟨g, 4, none⟩ = some (.int .i64 s) := (O1.out).cell 4 rfl; have df4 := (O1.out).fr 4; have d5 : w1.cell? ⟨g, 5, none⟩ = some (.bool true) := (O1.out).cell 5 rfl; have df5 := (O1.out).fr 5))
      first | exact bodyPost_end (results_none rfl _ _ _) rfl ⟨rfl, O1.out.set 2 _ rfl, B1.out.setCell (Nat.le_refl g) _⟩ | exact bodyPost_ret (results_none rfl _ _ _) rfl ⟨rfl, O1.out.set 2 _ rfl, B1.out.setCell (Nat.le_refl g) _⟩
end Go.Proofs.YthifgfhgkdjkfaaDoor
namespace Go.Proofs.YthifgfhgkdjkfaaDoor
open Go.RowKit
set_option maxRecDepth 100000 in
set_option maxHeartbeats 1600000 in
theorem tof_step (g : Nat) (T : TypeId) (now : Int) (t : Tm) (w : World) (hg : Glo w) (h0 : 0 < g) (hn : fitB 4 now = true) (hs : fitB 4 t.s = true) (h : Ob w g T t.ob) : Calls Tryd.prog 98 #[.pointer (some ⟨g, 0, none⟩), .int .i64 now] w fun e w' => e = .returned (.tuple #[]) ∧ Ob w' g T (tofT now t).ob ∧ Below g w w' := by
  obtain ⟨i, p, q, e, s, r⟩ := t
  change fitB 4 s = true at hs
  cases i
  · cases q
    · change Ob w g T #[.bool false, .int .i64 p, .bool false, .int .i64 e, .int .i64 s, .bool r] at h
      have H := hide h
      have c0 : w.cell? ⟨g, 0, none⟩ = some (.bool false) := (H.out).cell 0 rfl; have cf0 := (H.out).fr 0; have c1 : w.cell? ⟨g, 1, none⟩ = some (.int .i64 p) := (H.out).cell 1 rfl; have cf1 := (H.out).fr 1; have c2 : w.cell? ⟨g, 2, none⟩ = some (.bool false) := (H.out).cell 2 rfl; have cf2 := (H.out).fr 2; have c3 : w.cell? ⟨g, 3, none⟩ = some (.int .i64 e) := (H.out).cell 3 rfl; have cf3 := (H.out).fr 3; have c4 : w.cell? ⟨g, 4, none⟩ = some (.int .i64 s) := (H.out).cell 4 rfl; have cf4 := (H.out).fr 4; have c5 : w.cell? ⟨g, 5, none⟩ = some (.bool r) := (H.out).cell 5 rfl; have cf5 := (H.out).fr 5
      clear h hg hn hs
      go_enter Tryd.func98, Tryd.ntmps98
      go_wp2
      first | exact bodyPost_end (results_none rfl _ _ _) rfl ⟨rfl, H.out, Below.refl g w⟩ | exact bodyPost_ret (results_none rfl _ _ _) rfl ⟨rfl, H.out, Below.refl g w⟩
    · cases r
      · change Ob w g T #[.bool false, .int .i64 p, .bool true, .int .i64 e, .int .i64 s, .bool false] at h
        have H := hide h
        have c0 : w.cell? ⟨g, 0, none⟩ = some (.bool false) := (H.out).cell 0 rfl; have cf0 := (H.out).fr 0; have c1 : w.cell? ⟨g, 1, none⟩ = some (.int .i64 p) := (H.out).cell 1 rfl; have cf1 := (H.out).fr 1; have c2 : w.cell? ⟨g, 2, none⟩ = some (.bool true) := (H.out).cell 2 rfl; have cf2 := (H.out).fr 2; have c3 : w.cell? ⟨g, 3, none⟩ = some (.int .i64 e) := (H.out).cell 3 rfl; have cf3 := (H.out).fr 3; have c4 : w.cell? ⟨g, 4, none⟩ = some (.int .i64 s) := (H.out).cell 4 rfl; have cf4 := (H.out).fr 4; have c5 : w.cell? ⟨g, 5, none⟩ = some (.bool false) := (H.out).cell 5 rfl; have cf5 := (H.out).fr 5
        have mB := begin_any g T _ _ _ _ _ _ now w h
        have mE : Hid (∀ W, Below g w W → Ob W g T #[.bool false, .int .i64 p, .bool true, .int .i64 e, .int .i64 now, .bool true] → Calls Tryd.prog 75 #[.pointer (some ⟨g, 0, none⟩), .int .i64 now] W fun e w' => e = .returned (.bool (decide (p ≤ goneN now now))) ∧ Ob w' g T #[.bool false, .int .i64 p, .bool true, .int .i64 (min (goneN now now) p), .int .i64 now, .bool true] ∧ Below g W w') := fun W hb ho => elapse_any g T _ _ _ _ p now now W (hg.below hb h0) hn hn ho
        clear h hg hn hs
        go_enter Tryd.func98, Tryd.ntmps98
        go_wp2_with (first | (go_at_call 71; refine mB.mono ?_; rintro e_ w1 ⟨rfl, o1, b1⟩; have O1 := hide o1; have B1 := hide b1; clear o1 b1; have u0 : w1.cell? ⟨g, 0, none⟩ = some (.bool false) := (O1.out).cell 0 rfl; have uf0 := (O1.out).fr 0; have u1 : w1.cell? ⟨g, 1, none⟩ = some (.int .i64 p) := (O1.out).cell 1 rfl; have uf1 := (O1.out).fr 1; have u2 : w1.cell? ⟨g, 2, none⟩ = some (.bool true) := (O1.out).cell 2 rfl; have uf2 := (O1.out).fr 2; have u3 : w1.cell? ⟨g, 3, none⟩ = some (.int .i64 e) := (O1.out).cell 3 rfl; have uf3 := (O1.out).fr 3; have u4 : w1.cell? ⟨g, 4, none⟩ = some (.int .i64 now) := (O1.out).cell 4 rfl; have uf4 := (O1.out).fr 4; have u5 : w1.cell? ⟨g, 5, none⟩ = some (.bool true) := (O1.out).cell 5 rfl; have uf5 := (O1.out).fr 5) | (go_at_call 75; refine (mE.out w1 B1.out O1.out).mono ?_; rintro e_ w2 ⟨rfl, o2, b2⟩; have O2 := hide o2; have B2 := hide b2; clear o2 b2; have d0 : w2.cell? ⟨g, 0, none⟩ = some (.bool false) := (O2.out).cell 0 rfl; have df0 := (O2.out).fr 0; have d1 : w2.cell? ⟨g, 1, none⟩ = some (.int .i64 p) := (O2.out).cell 1 rfl; have df1 := (O2.out).fr 1; have d2 : w2.cell? ⟨g, 2, none⟩ = some (.bool true) := (O2.out).cell 2 rfl; have df2 := (O2.out).fr 2; have d3 : w2.cell? ⟨g, 3, none⟩ = some (.int .i64 (min (goneN now now) p)) := (O2.out).cell 3 rfl; have df3 := (O2.out).fr 3; have d4 : w2.cell? ⟨g, 4, none⟩ = some (.int .i64 now) := (O2.out).cell 4 rfl; have df4 := (O2.out).fr 4; have d5 : w2.cell? ⟨g, 5, none⟩ = some (.bool true) := (O2.out).cell 5 rfl; have df5 := (O2.out).fr 5))
        first | exact bodyPost_end (results_none rfl _ _ _) rfl ⟨rfl, (O2.out.set 2 _ rfl).set 5 _ rfl, ((B1.out.trans B2.out).setCell (Nat.le_refl g) _).setCell (Nat.le_refl g) _⟩ | exact bodyPost_ret (results_none rfl _ _ _) rfl ⟨rfl, (O2.out.set 2 _ rfl).set 5 _ rfl, ((B1.out.trans B2.out).setCell (Nat.le_refl g) _).setCell (Nat.le_refl g) _⟩
      · change Ob w g T #[.bool false, .int .i64 p, .bool true, .int .i64 e, .int .i64 s, .bool true] at h
        have H := hide h
        have c0 : w.cell? ⟨g, 0, none⟩ = some (.bool false) := (H.out).cell 0 rfl; have cf0 := (H.out).fr 0; have c1 : w.cell? ⟨g, 1, none⟩ = some (.int .i64 p) := (H.out).cell 1 rfl; have cf1 := (H.out).fr 1; have c2 : w.cell? ⟨g, 2, none⟩ = some (.bool true) := (H.out).cell 2 rfl; have cf2 := (H.out).fr 2; have c3 : w.cell? ⟨g, 3, none⟩ = some (.int .i64 e) := (H.out).cell 3 rfl; have cf3 := (H.out).fr 3; have c4 : w.cell? ⟨g, 4, none⟩ = some (.int .i64 s) := (H.out).cell 4 rfl; have cf4 := (H.out).fr 4; have c5 : w.cell? ⟨g, 5, none⟩ = some (.bool true) := (H.out).cell 5 rfl; have cf5 := (H.out).fr 5
        have mE : Hid (∀ W, Below g w W → Ob W g T #[.bool false, .int .i64 p, .bool true, .int .i64 e, .int .i64 s, .bool true] → Calls Tryd.prog 75 #[.pointer (some ⟨g, 0, none⟩), .int .i64 now] W fun e w' => e = .returned (.bool (decide (p ≤ goneN now s))) ∧ Ob w' g T #[.bool false, .int .i64 p, .bool true, .int .i64 (min (goneN now s) p), .int .i64 s, .bool true] ∧ Below g W w') := fun W hb ho => elapse_any g T _ _ _ _ p s now W (hg.below hb h0) hn hs ho
        clear h hg hn hs
        go_enter Tryd.func98, Tryd.ntmps98
        go_wp2_with (first | (go_at_call 75; refine (mE.out w (Below.refl g w) H.out).mono ?_; rintro e_ w1 ⟨rfl, o1, b1⟩; have O1 := hide o1; have B1 := hide b1; clear o1 b1; have d0 : w1.cell? ⟨g, 0, none⟩ = some (.bool false) := (O1.out).cell 0 rfl; have df0 := (O1.out).fr 0; have d1 : w1.cell? ⟨g, 1, none⟩ = some (.int .i64 p) := (O1.out).cell 1 rfl; have df1 := (O1.out).fr 1; have d2 : w1.cell? ⟨g, 2, none⟩ = some (.bool true) := (O1.out).cell 2 rfl; have df2 := (O1.out).fr 2; have d3 : w1.cell? ⟨g, 3, none⟩ = some (.int .i64 (min (goneN now s) p)) := (O1.out).cell 3 rfl; have df3 := (O1.out).fr 3; have d4 : w1.cell? ⟨g, 4, none⟩ = some (.int .i64 s) := (O1.out).cell 4 rfl; have df4 := (O1.out).fr 4; have d5 : w1.cell? ⟨g, 5, none⟩ = some (.bool true) := (O1.out).cell 5 rfl; have df5 := (O1.out).fr 5))
        first | exact bodyPost_end (results_none rfl _ _ _) rfl ⟨rfl, (O1.out.set 2 _ rfl).set 5 _ rfl, (B1.out.setCell (Nat.le_refl g) _).setCell (Nat.le_refl g) _⟩ | exact bodyPost_ret (results_none rfl _ _ _) rfl ⟨rfl, (O1.out.set 2 _ rfl).set 5 _ rfl, (B1.out.setCell (Nat.le_refl g) _).setCell (Nat.le_refl g) _⟩
  · change Ob w g T #[.bool true, .int .i64 p, .bool q, .int .i64 e, .int .i64 s, .bool r] at h
    have H := hide h
    have c0 : w.cell? ⟨g, 0, none⟩ = some (.bool true) := (H.out).cell 0 rfl; have cf0 := (H.out).fr 0; have c1 : w.cell? ⟨g, 1, none⟩ = some (.int .i64 p) := (H.out).cell 1 rfl; have cf1 := (H.out).fr 1; have c2 : w.cell? ⟨g, 2, none⟩ = some (.bool q) := (H.out).cell 2 rfl; have cf2 := (H.out).fr 2; have c3 : w.cell? ⟨g, 3, none⟩ = some (.int .i64 e) := (H.out).cell 3 rfl; have cf3 := (H.out).fr 3; have c4 : w.cell? ⟨g, 4, none⟩ = some (.int .i64 s) := (H.out).cell 4 rfl; have cf4 := (H.out).fr 4; have c5 : w.cell? ⟨g, 5, none⟩ = some (.bool r) := (H.out).cell 5 rfl; have cf5 := (H.out).fr 5
    clear h hg hn hs
    go_enter Tryd.func98, Tryd.ntmps98
    go_wp2
    first | exact bodyPost_end (results_none rfl _ _ _) rfl ⟨rfl, ((H.out.set 2 _ rfl).set 3 _ rfl).set 5 _ rfl, (((Below.refl g w).setCell (Nat.le_refl g) _).setCell (Nat.le_refl g) _).setCell (Nat.le_refl g) _⟩ | exact bodyPost_ret (results_none rfl _ _ _) rfl ⟨rfl, ((H.out.set 2 _ rfl).set 3 _ rfl).set 5 _ rfl, (((Below.refl g w).setCell (Nat.le_refl g) _).setCell (Nat.le_refl g) _).setCell (Nat.le_refl g) _⟩
end Go.Proofs.YthifgfhgkdjkfaaDoor
