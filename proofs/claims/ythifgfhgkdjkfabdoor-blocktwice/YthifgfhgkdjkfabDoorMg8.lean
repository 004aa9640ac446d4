/- block: what a TON does. | block: what a TOF and a TP do. -/
import Derived.Test.YthifgfhgkdjkfabDoorMg7
namespace Go.Proofs.YthifgfhgkdjkfabDoor
open Go.RowKit
set_option maxRecDepth 100000 in
set_option maxHeartbeats 1600000 in
theorem ton_step (g : Nat) (T : TypeId) (now : Int) (t : Tm) (w : World) (hg : Glo w) (h0 : 0 < g) (hn : fitB 4 now = true) (hs : fitB 4 t.s = true) (h : Ob w g T t.ob) : Calls Tryd.prog 38 #[.pointer (some ⟨g, 0, none⟩), .int .i64 now] w fun e w' => e = .returned (.tuple #[]) ∧ Ob w' g T (tonT now t).ob ∧ Below g w w' := by
  obtain ⟨i, p, q, e, s, r⟩ := t
  change fitB 4 s = true at hs
  have H := hide h
  cases i
  · change Ob w g T #[.bool false, .int .i64 p, .bool q, .int .i64 e, .int .i64 s, .bool r] at h
    have H := hide h
    have c0 : w.cell? ⟨g, 0, none⟩ = some (.bool false) := (H.out).cell 0 rfl; have cf0 := (H.out).fr 0; have c1 : w.cell? ⟨g, 1, none⟩ = some (.int .i64 p) := (H.out).cell 1 rfl; have cf1 := (H.out).fr 1; have c2 : w.cell? ⟨g, 2, none⟩ = some (.bool q) := (H.out).cell 2 rfl; have cf2 := (H.out).fr 2; have c3 : w.cell? ⟨g, 3, none⟩ = some (.int .i64 e) := (H.out).cell 3 rfl; have cf3 := (H.out).fr 3; have c4 : w.cell? ⟨g, 4, none⟩ = some (.int .i64 s) := (H.out).cell 4 rfl; have cf4 := (H.out).fr 4; have c5 : w.cell? ⟨g, 5, none⟩ = some (.bool r) := (H.out).cell 5 rfl; have cf5 := (H.out).fr 5
    clear h hg hn hs
    go_enter Tryd.func38, Tryd.ntmps38
    go_wp2
    first | exact bodyPost_end (results_none rfl _ _ _) rfl ⟨rfl, ((H.out.set 2 _ rfl).set 3 _ rfl).set 5 _ rfl, (((Below.refl g w).setCell (Nat.le_refl g) _).setCell (Nat.le_refl g) _).setCell (Nat.le_refl g) _⟩ | exact bodyPost_ret (results_none rfl _ _ _) rfl ⟨rfl, ((H.out.set 2 _ rfl).set 3 _ rfl).set 5 _ rfl, (((Below.refl g w).setCell (Nat.le_refl g) _).setCell (Nat.le_refl g) _).setCell (Nat.le_refl g) _⟩
  · cases r
    · change Ob w g T #[.bool true, .int .i64 p, .bool q, .int .i64 e, .int .i64 s, .bool false] at h
      have H := hide h
      have c0 : w.cell? ⟨g, 0, none⟩ = some (.bool true) := (H.out).cell 0 rfl; have cf0 := (H.out).fr 0; have c1 : w.cell? ⟨g, 1, none⟩ = some (.int .i64 p) := (H.out).cell 1 rfl; have cf1 := (H.out).fr 1; have c2 : w.cell? ⟨g, 2, none⟩ = some (.bool q) := (H.out).cell 2 rfl; have cf2 := (H.out).fr 2; have c3 : w.cell? ⟨g, 3, none⟩ = some (.int .i64 e) := (H.out).cell 3 rfl; have cf3 := (H.out).fr 3; have c4 : w.cell? ⟨g, 4, none⟩ = some (.int .i64 s) := (H.out).cell 4 rfl; have cf4 := (H.out).fr 4; have c5 : w.cell? ⟨g, 5, none⟩ = some (.bool false) := (H.out).cell 5 rfl; have cf5 := (H.out).fr 5
      have mB := begin_any g T _ _ _ _ _ _ now w h
      have mE : Hid (∀ W, Below g w W → Ob W g T #[.bool true, .int .i64 p, .bool q, .int .i64 e, .int .i64 now, .bool true] → Calls Tryd.prog 40 #[.pointer (some ⟨g, 0, none⟩), .int .i64 now] W fun e w' => e = .returned (.bool (decide (p ≤ goneN now now))) ∧ Ob w' g T #[.bool true, .int .i64 p, .bool q, .int .i64 (min (goneN now now) p), .int .i64 now, .bool true] ∧ Below g W w') := fun W hb ho => elapse_any g T _ _ _ _ p now now W (hg.below hb h0) hn hn ho
      clear h hg hn hs
      go_enter Tryd.func38, Tryd.ntmps38
      go_wp2_with (first | (go_at_call 36; refine mB.mono ?_; rintro e_ w1 ⟨rfl, o1, b1⟩; have O1 := hide o1; have B1 := hide b1; clear o1 b1; have u0 : w1.cell? ⟨g, 0, none⟩ = some (.bool true) := (O1.out).cell 0 rfl; have uf0 := (O1.out).fr 0; have u1 : w1.cell? ⟨g, 1, none⟩ = some (.int .i64 p) := (O1.out).cell 1 rfl; have uf1 := (O1.out).fr 1; have u2 : w1.cell? ⟨g, 2, none⟩ = some (.bool q) := (O1.out).cell 2 rfl; have uf2 := (O1.out).fr 2; have u3 : w1.cell? ⟨g, 3, none⟩ = some (.int .i64 e) := (O1.out).cell 3 rfl; have uf3 := (O1.out).fr 3; have u4 : w1.cell? ⟨g, 4, none⟩ = some (.int .i64 now) := (O1.out).cell 4 rfl; have uf4 := (O1.out).fr 4; have u5 : w1.cell? ⟨g, 5, none⟩ = some (.bool true) := (O1.out).cell 5 rfl; have uf5 := (O1.out).fr 5) | (go_at_call 40; refine (mE.out w1 B1.out O1.out).mono ?_; rintro e_ w2 ⟨rfl, o2, b2⟩; have O2 := hide o2; have B2 := hide b2; clear o2 b2; have d0 : w2.cell? ⟨g, 0, none⟩ = some (.bool true) := (O2.out).cell 0 rfl; have df0 := (O2.out).fr 0; have d1 : w2.cell? ⟨g, 1, none⟩ = some (.int .i64 p) := (O2.out).cell 1 rfl; have df1 := (O2.out).fr 1; have d2 : w2.cell? ⟨g, 2, none⟩ = some (.bool q) := (O2.out).cell 2 rfl; have df2 := (O2.out).fr 2; have d3 : w2.cell? ⟨g, 3, none⟩ = some (.int .i64 (min (goneN now now) p)) := (O2.out).cell 3 rfl; have df3 := (O2.out).fr 3; have d4 : w2.cell? ⟨g, 4, none⟩ = some (.int .i64 now) := (O2.out).cell 4 rfl; have df4 := (O2.out).fr 4; have d5 : w2.cell? ⟨g, 5, none⟩ = some (.bool true) := (O2.out).cell 5 rfl; have df5 := (O2.out).fr 5))
      first | exact bodyPost_end (results_none rfl _ _ _) rfl ⟨rfl, O2.out.set 2 _ rfl, (B1.out.trans B2.out).setCell (Nat.le_refl g) _⟩ | exact bodyPost_ret (results_none rfl _ _ _) rfl ⟨rfl, O2.out.set 2 _ rfl, (B1.out.trans B2.out).setCell (Nat.le_refl g) _⟩
    · change Ob w g T #[.bool true, .int .i64 p, .bool q, .int .i64 e, .int .i64 s, .bool true] at h
      have H := hide h
      have c0 : w.cell? ⟨g, 0, none⟩ = some (.bool true) := (H.out).cell 0 rfl; have cf0 := (H.out).fr 0; have c1 : w.cell? ⟨g, 1, none⟩ = some (.int .i64 p) := (H.out).cell 1 rfl; have cf1 := (H.out).fr 1; have c2 : w.cell? ⟨g, 2, none⟩ = some (.bool q) := (H.out).cell 2 rfl; have cf2 := (H.out).fr 2; have c3 : w.cell? ⟨g, 3, none⟩ = some (.int .i64 e) := (H.out).cell 3 rfl; have cf3 := (H.out).fr 3; have c4 : w.cell? ⟨g, 4, none⟩ = some (.int .i64 s) := (H.out).cell 4 rfl; have cf4 := (H.out).fr 4; have c5 : w.cell? ⟨g, 5, none⟩ = some (.bool true) := (H.out).cell 5 rfl; have cf5 := (H.out).fr 5
      have mE : Hid (∀ W, Below g w W → Ob W g T #[.bool true, .int .i64 p, .bool q, .int .i64 e, .int .i64 s, .bool true] → Calls Tryd.prog 40 #[.pointer (some ⟨g, 0, none⟩), .int .i64 now] W fun e w' => e = .returned (.bool (decide (p ≤ goneN now s))) ∧ Ob w' g T #[.bool true, .int .i64 p, .bool q, .int .i64 (min (goneN now s) p), .int .i64 s, .bool true] ∧ Below g W w') := fun W hb ho => elapse_any g T _ _ _ _ p s now W (hg.below hb h0) hn hs ho
      clear h hg hn hs
      go_enter Tryd.func38, Tryd.ntmps38
      go_wp2_with (first | (go_at_call 40; refine (mE.out w (Below.refl g w) H.out).mono ?_; rintro e_ w1 ⟨rfl, o1, b1⟩; have O1 := hide o1; have B1 := hide b1; clear o1 b1; have d0 : w1.cell? ⟨g, 0, none⟩ = some (.bool true) := (O1.out).cell 0 rfl; have df0 := (O1.out).fr 0; have d1 : w1.cell? ⟨g, 1, none⟩ = some (.int .i64 p) := (O1.out).cell 1 rfl; have df1 := (O1.out).fr 1; have d2 : w1.cell? ⟨g, 2, none⟩ = some (.bool q) := (O1.out).cell 2 rfl; have df2 := (O1.out).fr 2; have d3 : w1.cell? ⟨g, 3, none⟩ = some (.int .i64 (min (goneN now s) p)) := (O1.out).cell 3 rfl; have df3 := (O1.out).fr 3; have d4 : w1.cell? ⟨g, 4, none⟩ = some (.int .i64 s) := (O1.out).cell 4 rfl; have df4 := (O1.out).fr 4; have d5 : w1.cell? ⟨g, 5, none⟩ = some (.bool true) := (O1.out).cell 5 rfl; have df5 := (O1.out).fr 5))
      first | exact bodyPost_end (results_none rfl _ _ _) rfl ⟨rfl, O1.out.set 2 _ rfl, B1.out.setCell (Nat.le_refl g) _⟩ | exact bodyPost_ret (results_none rfl _ _ _) rfl ⟨rfl, O1.out.set 2 _ rfl, B1.out.setCell (Nat.le_refl g) _⟩
end Go.Proofs.YthifgfhgkdjkfabDoor
namespace Go.Proofs.YthifgfhgkdjkfabDoor
open Go.RowKit
set_option maxRecDepth 100000 in
set_option maxHeartbeats 1600000 in
theorem tof_step (g : Nat) (T : TypeId) (now : Int) (t : Tm) (w : World) (hg : Glo w) (h0 : 0 < g) (hn : fitB 4 now = true) (hs : fitB 4 t.s = true) (h : Ob w g T t.ob) : Calls Tryd.prog 63 #[.pointer (some ⟨g, 0, none⟩), .int .i64 now] w fun e w' => e = .returned (.tuple #[]) ∧ Ob w' g T (tofT now t).ob ∧ Below g w w' := by
  obtain ⟨i, p, q, e, s, r⟩ := t
  change fitB 4 s = true at hs
  cases i
  · cases q
    · change Ob w g T #[.bool false, .int .i64 p, .bool false, .int .i64 e, .int .i64 s, .bool r] at h
      have H := hide h
      have c0 : w.cell? ⟨g, 0, none⟩ = some (.bool false) := (H.out).cell 0 rfl; have cf0 := (H.out).fr 0; have c1 : w.cell? ⟨g, 1, none⟩ = some (.int .i64 p) := (H.out).cell 1 rfl; have cf1 := (H.out).fr 1; have c2 : w.cell? ⟨g, 2, none⟩ = some (.bool false) := (H.out).cell 2 rfl; have cf2 := (H.out).fr 2; have c3 : w.cell? ⟨g, 3, none⟩ = some (.int .i64 e) := (H.out).cell 3 rfl; have cf3 := (H.out).fr 3; have c4 : w.cell? ⟨g, 4, none⟩ = some (.int .i64 s) := (H.out).cell 4 rfl; have cf4 := (H.out).fr 4; have c5 : w.cell? ⟨g, 5, none⟩ = some (.bool r) := (H.out).cell 5 rfl; have cf5 := (H.out).fr 5
      clear h hg hn hs
      go_enter Tryd.func63, Tryd.ntmps63
      go_wp2
      first | exact bodyPost_end (results_none rfl _ _ _) rfl ⟨rfl, H.out, Below.refl g w⟩ | exact bodyPost_ret (results_none rfl _ _ _) rfl ⟨rfl, H.out, Below.refl g w⟩
    · cases r
      · change Ob w g T #[.bool false, .int .i64 p, .bool true, .int .i64 e, .int .i64 s, .bool false] at h
        have H := hide h
        have c0 : w.cell? ⟨g, 0, none⟩ = some (.bool false) := (H.out).cell 0 rfl; have cf0 := (H.out).fr 0; have c1 : w.cell? ⟨g, 1, none⟩ = some (.int .i64 p) := (H.out).cell 1 rfl; have cf1 := (H.out).fr 1; have c2 : w.cell? ⟨g, 2, none⟩ = some (.bool true) := (H.out).cell 2 rfl; have cf2 := (H.out).fr 2; have c3 : w.cell? ⟨g, 3, none⟩ = some (.int .i64 e) := (H.out).cell 3 rfl; have cf3 := (H.out).fr 3; have c4 : w.cell? ⟨g, 4, none⟩ = some (.int .i64 s) := (H.out).cell 4 rfl; have cf4 := (H.out).fr 4; have c5 : w.cell? ⟨g, 5, none⟩ = some (.bool false) := (H.out).cell 5 rfl; have cf5 := (H.out).fr 5
        have mB := begin_any g T _ _ _ _ _ _ now w h
        have mE : Hid (∀ W, Below g w W → Ob W g T #[.bool false, .int .i64 p, .bool true, .int .i64 e, .int .i64 now, .bool true] → Calls Tryd.prog 40 #[.pointer (some ⟨g, 0, none⟩), .int .i64 now] W fun e w' => e = .returned (.bool (decide (p ≤ goneN now now))) ∧ Ob w' g T #[.bool false, .int .i64 p, .bool true, .int .i64 (min (goneN now now) p), .int .i64 now, .bool true] ∧ Below g W w') := fun W hb ho => elapse_any g T _ _ _ _ p now now W (hg.below hb h0) hn hn ho
        clear h hg hn hs
        go_enter Tryd.func63, Tryd.ntmps63
        go_wp2_with (first | (go_at_call 36; refine mB.mono ?_; rintro e_ w1 ⟨rfl, o1, b1⟩; have O1 := hide o1; have B1 := hide b1; clear o1 b1; have u0 : w1.cell? ⟨g, 0, none⟩ = some (.bool false) := (O1.out).cell 0 rfl; have uf0 := (O1.out).fr 0; have u1 : w1.cell? ⟨g, 1, none⟩ = some (.int .i64 p) := (O1.out).cell 1 rfl; have uf1 := (O1.out).fr 1; have u2 : w1.cell? ⟨g, 2, none⟩ = some (.bool true) := (O1.out).cell 2 rfl; have uf2 := (O1.out).fr 2; have u3 : w1.cell? ⟨g, 3, none⟩ = some (.int .i64 e) := (O1.out).cell 3 rfl; have uf3 := (O1.out).fr 3; have u4 : w1.cell? ⟨g, 4, none⟩ = some (.int .i64 now) := (O1.out).cell 4 rfl; have uf4 := (O1.out).fr 4; have u5 : w1.cell? ⟨g, 5, none⟩ = some (.bool true) := (O1.out).cell 5 rfl; have uf5 := (O1.out).fr 5) | (go_at_call 40; refine (mE.out w1 B1.out O1.out).mono ?_; rintro e_ w2 ⟨rfl, o2, b2⟩; have O2 := hide o2; have B2 := hide b2; clear o2 b2; have d0 : w2.cell? ⟨g, 0, none⟩ = some (.bool false) := (O2.out).cell 0 rfl; have df0 := (O2.out).fr 0; have d1 : w2.cell? ⟨g, 1, none⟩ = some (.int .i64 p) := (O2.out).cell 1 rfl; have df1 := (O2.out).fr 1; have d2 : w2.cell? ⟨g, 2, none⟩ = some (.bool true) := (O2.out).cell 2 rfl; have df2 := (O2.out).fr 2; have d3 : w2.cell? ⟨g, 3, none⟩ = some (.int .i64 (min (goneN now now) p)) := (O2.out).cell 3 rfl; have df3 := (O2.out).fr 3; have d4 : w2.cell? ⟨g, 4, none⟩ = some (.int .i64 now) := (O2.out).cell 4 rfl; have df4 := (O2.out).fr 4; have d5 : w2.cell? ⟨g, 5, none⟩ = some (.bool true) := (O2.out).cell 5 rfl; have df5 := (O2.out).fr 5))
        first | exact bodyPost_end (results_none rfl _ _ _) rfl ⟨rfl, (O2.out.set 2 _ rfl).set 5 _ rfl, ((B1.out.trans B2.out).setCell (Nat.le_refl g) _).setCell (Nat.le_refl g) _⟩ | exact bodyPost_ret (results_none rfl _ _ _) rfl ⟨rfl, (O2.out.set 2 _ rfl).set 5 _ rfl, ((B1.out.trans B2.out).setCell (Nat.le_refl g) _).setCell (Nat.le_refl g) _⟩
      · change Ob w g T #[.bool false, .int .i64 p, .bool true, .int .i64 e, .int .i64 s, .bool true] at h
        have H := hide h
        have c0 : w.cell? ⟨g, 0, none⟩ = some (.bool false) := (H.out).cell 0 rfl; have cf0 := (H.out).fr 0; have c1 : w.cell? ⟨g, 1, none⟩ = some (.int .i64 p) := (H.out).cell 1 rfl; have cf1 := (H.out).fr 1; have c2 : w.cell? ⟨g, 2, none⟩ = some (.bool true) := (H.out).cell 2 rfl; have cf2 := (H.out).fr 2; have c3 : w.cell? ⟨g, 3, none⟩ = some (.int .i64 e) := (H.out).cell 3 rfl; have cf3 := (H.out).fr 3; have c4 : w.cell? ⟨g, 4, none⟩ = some (.int .i64 s) := (H.out).cell 4 rfl; have cf4 := (H.out).fr 4; have c5 : w.cell? ⟨g, 5, none⟩ = some (.bool true) := (H.out).cell 5 rfl; have cf5 := (H.out).fr 5
        have mE : Hid (∀ W, Below g w W → Ob W g T #[.bool false, .int .i64 p, .bool true, .int .i64 e, .int .i64 s, .bool true] → Calls Tryd.prog 40 #[.pointer (some ⟨g, 0, none⟩), .int .i64 now] W fun e w' => e = .returned (.bool (decide (p ≤ goneN now s))) ∧ Ob w' g T #[.bool false, .int .i64 p, .bool true, .int .i64 (min (goneN now s) p), .int .i64 s, .bool true] ∧ Below g W w') := fun W hb ho => elapse_any g T _ _ _ _ p s now W (hg.below hb h0) hn hs ho
        clear h hg hn hs
        go_enter Tryd.func63, Tryd.ntmps63
        go_wp2_with (first | (go_at_call 40; refine (mE.out w (Below.refl g w) H.out).mono ?_; rintro e_ w1 ⟨rfl, o1, b1⟩; have O1 := hide o1; have B1 := hide b1; clear o1 b1; have d0 : w1.cell? ⟨g, 0, none⟩ = some (.bool false) := (O1.out).cell 0 rfl; have df0 := (O1.out).fr 0; have d1 : w1.cell? ⟨g, 1, none⟩ = some (.int .i64 p) := (O1.out).cell 1 rfl; have df1 := (O1.out).fr 1; have d2 : w1.cell? ⟨g, 2, none⟩ = some (.bool true) := (O1.out).cell 2 rfl; have df2 := (O1.out).fr 2; have d3 : w1.cell? ⟨g, 3, none⟩ = some (.int .i64 (min (goneN now s) p)) := (O1.out).cell 3 rfl; have df3 := (O1.out).fr 3; have d4 : w1.cell? ⟨g, 4, none⟩ = some (.int .i64 s) := (O1.out).cell 4 rfl; have df4 := (O1.out).fr 4; have d5 : w1.cell? ⟨g, 5, none⟩ = some (.bool true) := (O1.out).cell 5 rfl; have df5 := (O1.out).fr 5))
        first | exact bodyPost_end (results_none rfl _ _ _) rfl ⟨rfl, (O1.out.set 2 _ rfl).set 5 _ rfl, (B1.out.setCell (Nat.le_refl g) _).setCell (Nat.le_refl g) _⟩ | exact bodyPost_ret (results_none rfl _ _ _) rfl ⟨rfl, (O1.out.set 2 _ rfl).set 5 _ rfl, (B1.out.setCell (Nat.le_refl g) _).setCell (Nat.le_refl g) _⟩
  · change Ob w g T #[.bool true, .int .i64 p, .bool q, .int .i64 e, .int .i64 s, .bool r] at h
    have H := hide h
    have c0 : w.cell? ⟨g, 0, none⟩ = some (.bool true) := (H.out).cell 0 rfl; have cf0 := (H.out).fr 0; have c1 : w.cell? ⟨g, 1, none⟩ = some (.int .i64 p) := (H.out).cell 1 rfl; have cf1 := (H.out).fr 1; have c2 : w.cell? ⟨g, 2, none⟩ = some (.bool q) := (H.out).cell 2 rfl; have cf2 := (H.out).fr 2; have c3 : w.cell? ⟨g, 3, none⟩ = some (.int .i64 e) := (H.out).cell 3 rfl; have cf3 := (H.out).fr 3; have c4 : w.cell? ⟨g, 4, none⟩ = some (.int .i64 s) := (H.out).cell 4 rfl; have cf4 := (H.out).fr 4; have c5 : w.cell? ⟨g, 5, none⟩ = some (.bool r) := (H.out).cell 5 rfl; have cf5 := (H.out).fr 5
    clear h hg hn hs
    go_enter Tryd.func63, Tryd.ntmps63
    go_wp2
    first | exact bodyPost_end (results_none rfl _ _ _) rfl ⟨rfl, ((H.out.set 2 _ rfl).set 3 _ rfl).set 5 _ rfl, (((Below.refl g w).setCell (Nat.le_refl g) _).setCell (Nat.le_refl g) _).setCell (Nat.le_refl g) _⟩ | exact bodyPost_ret (results_none rfl _ _ _) rfl ⟨rfl, ((H.out.set 2 _ rfl).set 3 _ rfl).set 5 _ rfl, (((Below.refl g w).setCell (Nat.le_refl g) _).setCell (Nat.le_refl g) _).setCell (Nat.le_refl g) _⟩
end Go.Proofs.YthifgfhgkdjkfabDoor
