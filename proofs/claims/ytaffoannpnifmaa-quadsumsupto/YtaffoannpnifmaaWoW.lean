/- The contract of the laws' works. -/
import Derived.Test.YtaffoannpnifmaaRwW
namespace Go.Proofs.Ytaffoannpnifmaa
open Go.RowKit
theorem blw {w w1 w2 : World} (c1 : Below w.heap.size w w1) (c2 : Below w1.heap.size w1 w2) : Below w.heap.size w w2 := c1.trans (c2.mono c1.size)
def exC : Array Value := #[.bool false, .bool false, .bool true, .bool false, .bool true, .bool true, .bool false, .bool true, .bool false, .bool false]
def exL : List Int := [0, 1, 2, 3, 0]
theorem exV : cntV exL = (4, 0, 0) := by decide
set_option maxRecDepth 100000 in
set_option maxHeartbeats 1600000 in
theorem works_any (w : World) : Calls Try.prog 17 #[] w fun e w' => e = .returned (.bool true) ∧ Below w.heap.size w w' := by
  have mp := fun a b W => place_any a b W
  have mc := fun v W (hL : ILst W v exL) => count_any v exL W hL (by decide)
  rw [exV] at mc
  have ms := fun W => step_any 1 3 W
  rw [show stepV 1 3 = (0, 110) from by decide] at ms
  have MC := hide mc
  clear mc
  go_enter Try.func17, Try.ntmps17
  go_wp2_with fail
  have hs0 : (w.alloc (.cells #[.bool false, .bool false, .bool true, .bool false, .bool true, .bool true, .bool false, .bool true, .bool false, .bool false] 58)).heap.size = w.heap.size + 1 := by simp
  have hx0 : (w.alloc (.cells #[.bool false, .bool false, .bool true, .bool false, .bool true, .bool true, .bool false, .bool true, .bool false, .bool false] 58)).heap[w.heap.size]? = some (.cells exC 58) := heap_alloc_new _ _
  have hb0 : Below w.heap.size w (w.alloc (.cells #[.bool false, .bool false, .bool true, .bool false, .bool true, .bool true, .bool false, .bool true, .bool false, .bool false] 58)) := (Below.refl _ _).alloc (Nat.le_refl _) _
  generalize w.alloc (.cells #[.bool false, .bool false, .bool true, .bool false, .bool true, .bool true, .bool false, .bool true, .bool false, .bool false] 58) = w0 at *
  have HX0 := hide hx0
  have HB0 := hide hb0
  have HS0 := hide hs0
  clear hx0 hb0 hs0
  go_loopw [1, 3, 16] (fun o _ i wr => ∃ (k : Nat) (ov : Value), k ≤ 5 ∧ i = .int .i64 (k : Int) ∧ ov = o ∧ Hid (wr.ownsRow (w.heap.size + 1) 3 1 ov k (intC (exL.take k)) ∧ Below (w.heap.size + 1) w0 wr)) (fun _ _ i _ => 5 - (intOf i).toNat)
  case atStart => exact ⟨0, .slice none 0 0, by omega, rfl, rfl, World.ownsRow_nil _ _ _ _, Below.refl _ _⟩
  case round =>
    obtain ⟨k, ov, hk, rfl, rfl, hh⟩ := hrel
    have HO := hide hh.out.1
    have HB := hide hh.out.2
    have hsz : w.heap.size + 1 ≤ wr.heap.size := by have := HB.out.size; rw [HS0.out] at this; exact this
    have HX : Hid (∀ j v, exC[j]? = some v → wr.cell? ⟨w.heap.size, j, none⟩ = some v) := fun j v hv => by
      rw [cell_of_row wr w.heap.size j exC 58 (0, 0) ((HB.out.block w.heap.size (by omega)).trans HX0.out)]
      exact hv
    obtain ⟨oa, ocap, hov, hoc⟩ := owns_slice HO.out
    subst hov
    clear hh
    obtain rfl | rfl | rfl | rfl | rfl | rfl : k = 0 ∨ k = 1 ∨ k = 2 ∨ k = 3 ∨ k = 4 ∨ k = 5 := by omega
    · have c0 : wr.cell? ⟨w.heap.size, 0, none⟩ = some (.bool false) := HX.out 0 _ rfl
      have c1 : wr.cell? ⟨w.heap.size, 1, none⟩ = some (.bool false) := HX.out 1 _ rfl
      have m1 := fun W => mp false false W
      rw [show ((pn false false : Nat) : Int) = 0 from rfl] at m1
      go_wp2_with (first | (go_at_call 9; refine (m1 _).mono ?_; rintro e w1 ⟨rfl, hb1⟩) | (at_builtin; refine wpList_append_ints (by rfl) _ _ (by rfl) (w.heap.size + 1) 0 _ _ (by rfl) ((own_on (HO.out.alloc _) hb1).alloc _) _ _ (by rfl) (ILst.lit _ _) (by decide) (by have := hb1.size; simp at this ⊢; omega) ?_; intro v' w3 hown3 hgr3))
      go_roundw
      case rel =>
        refine ⟨1, v', by omega, rfl, rfl, hown3, ?_⟩
        have hb2 := (HB.out.alloc hsz _).trans (hb1.mono (by simp; omega))
        exact below_app (hb2.alloc (by have := hb1.size; simp at this ⊢; omega) _) (by have := hb1.size; simp at this ⊢; omega) ((own_on (HO.out.alloc _) hb1).alloc _) hgr3
      case measure => decide
    · have c0 : wr.cell? ⟨w.heap.size, 2, none⟩ = some (.bool true) := HX.out 2 _ rfl
      have c1 : wr.cell? ⟨w.heap.size, 3, none⟩ = some (.bool false) := HX.out 3 _ rfl
      have m1 := fun W => mp true false W
      rw [show ((pn true false : Nat) : Int) = 1 from rfl] at m1
      go_wp2_with (first | (go_at_call 9; refine (m1 _).mono ?_; rintro e w1 ⟨rfl, hb1⟩) | (at_builtin; refine wpList_append_ints (by rfl) _ _ (by rfl) (w.heap.size + 1) 1 _ _ (by rfl) ((own_on (HO.out.alloc _) hb1).alloc _) _ _ (by rfl) (ILst.lit _ _) (by decide) (by have := hb1.size; simp at this ⊢; omega) ?_; intro v' w3 hown3 hgr3))
      go_roundw
      case rel =>
        refine ⟨2, v', by omega, rfl, rfl, hown3, ?_⟩
        have hb2 := (HB.out.alloc hsz _).trans (hb1.mono (by simp; omega))
        exact below_app (hb2.alloc (by have := hb1.size; simp at this ⊢; omega) _) (by have := hb1.size; simp at this ⊢; omega) ((own_on (HO.out.alloc _) hb1).alloc _) hgr3
      case measure => decide
    · have c0 : wr.cell? ⟨w.heap.size, 4, none⟩ = some (.bool true) := HX.out 4 _ rfl
      have c1 : wr.cell? ⟨w.heap.size, 5, none⟩ = some (.bool true) := HX.out 5 _ rfl
      have m1 := fun W => mp true true W
      rw [show ((pn true true : Nat) : Int) = 2 from rfl] at m1
      go_wp2_with (first | (go_at_call 9; refine (m1 _).mono ?_; rintro e w1 ⟨rfl, hb1⟩) | (at_builtin; refine wpList_append_ints (by rfl) _ _ (by rfl) (w.heap.size + 1) 2 _ _ (by rfl) ((own_on (HO.out.alloc _) hb1).alloc _) _ _ (by rfl) (ILst.lit _ _) (by decide) (by have := hb1.size; simp at this ⊢; omega) ?_; intro v' w3 hown3 hgr3))
      go_roundw
      case rel =>
        refine ⟨3, v', by omega, rfl, rfl, hown3, ?_⟩
        have hb2 := (HB.out.alloc hsz _).trans (hb1.mono (by simp; omega))
        exact below_app (hb2.alloc (by have := hb1.size; simp at this ⊢; omega) _) (by have := hb1.size; simp at this ⊢; omega) ((own_on (HO.out.alloc _) hb1).alloc _) hgr3
      case measure => decide
    · have c0 : wr.cell? ⟨w.heap.size, 6, none⟩ = some (.bool false) := HX.out 6 _ rfl
      have c1 : wr.cell? ⟨w.heap.size, 7, none⟩ = some (.bool true) := HX.out 7 _ rfl
      have m1 := fun W => mp false true W
      rw [show ((pn false true : Nat) : Int) = 3 from rfl] at m1
      go_wp2_with (first | (go_at_call 9; refine (m1 _).mono ?_; rintro e w1 ⟨rfl, hb1⟩) | (at_builtin; refine wpList_append_ints (by rfl) _ _ (by rfl) (w.heap.size + 1) 3 _ _ (by rfl) ((own_on (HO.out.alloc _) hb1).alloc _) _ _ (by rfl) (ILst.lit _ _) (by decide) (by have := hb1.size; simp at this ⊢; omega) ?_; intro v' w3 hown3 hgr3))
      go_roundw
      case rel =>
        refine ⟨4, v', by omega, rfl, rfl, hown3, ?_⟩
        have hb2 := (HB.out.alloc hsz _).trans (hb1.mono (by simp; omega))
        exact below_app (hb2.alloc (by have := hb1.size; simp at this ⊢; omega) _) (by have := hb1.size; simp at this ⊢; omega) ((own_on (HO.out.alloc _) hb1).alloc _) hgr3
      case measure => decide
    · have c0 : wr.cell? ⟨w.heap.size, 8, none⟩ = some (.bool false) := HX.out 8 _ rfl
      have c1 : wr.cell? ⟨w.heap.size, 9, none⟩ = some (.bool false) := HX.out 9 _ rfl
      have m1 := fun W => mp false false W
      rw [show ((pn false false : Nat) : Int) = 0 from rfl] at m1
      go_wp2_with (first | (go_at_call 9; refine (m1 _).mono ?_; rintro e w1 ⟨rfl, hb1⟩) | (at_builtin; refine wpList_append_ints (by rfl) _ _ (by rfl) (w.heap.size + 1) 4 _ _ (by rfl) ((own_on (HO.out.alloc _) hb1).alloc _) _ _ (by rfl) (ILst.lit _ _) (by decide) (by have := hb1.size; simp at this ⊢; omega) ?_; intro v' w3 hown3 hgr3))
      go_roundw
      case rel =>
        refine ⟨5, v', by omega, rfl, rfl, hown3, ?_⟩
        have hb2 := (HB.out.alloc hsz _).trans (hb1.mono (by simp; omega))
        exact below_app (hb2.alloc (by have := hb1.size; simp at this ⊢; omega) _) (by have := hb1.size; simp at this ⊢; omega) ((own_on (HO.out.alloc _) hb1).alloc _) hgr3
      case measure => decide
    · have hL : ILst wr (.slice oa 5 ocap) exL := ILst.of_owns (base := w.heap.size + 1) HO.out
      have m1 := MC.out _ wr hL
      have m2 := fun W => mp true false W
      have m3 := fun W => mp false true W
      rw [show ((pn true false : Nat) : Int) = 1 from rfl] at m2
      rw [show ((pn false true : Nat) : Int) = 3 from rfl] at m3
      have HBW := hide (HB0.out.trans (HB.out.mono (Nat.le_succ _)))
      clear mp hL
      go_wp2_with (first | (go_at_call 22; refine m1.mono ?_; rintro e w1 ⟨rfl, hb1⟩) | (go_at_call 9; first | ((with_reducible refine (m2 _).mono ?_); rintro e w2 ⟨rfl, hb2⟩) | ((with_reducible refine (m3 _).mono ?_); rintro e w3 ⟨rfl, hb3⟩)) | (go_at_call 15; refine (ms _).mono ?_; rintro e w4 ⟨rfl, hb4⟩))
      go_ret
      refine ⟨rfl, ?_⟩
      have q1 := HBW.out.trans (hb1.mono HBW.out.size)
      have q2 := q1.trans (hb2.mono q1.size)
      have q3 := q2.trans (hb3.mono q2.size)
      exact q3.trans (hb4.mono q3.size)
end Go.Proofs.Ytaffoannpnifmaa
