/- The contract of the laws' works: the chapter's examples; of names. -/
import Derived.Test.YtffeigdgleohlabDoorNumP
namespace Go.Proofs.YtffeigdgleohlabDoor
open Go.RowKit
set_option maxRecDepth 100000 in
set_option maxHeartbeats 3200000 in
theorem works_any (w : World) (hg : Glo w) : Calls Tryd.prog 5 #[] w fun e w' => e = .returned (.bool true) ∧ Below w.heap.size w w' := by
  have HG := hide hg
  have H0 := hide hg.lt
  have c0 : ∀ W, Glo W → Calls Tryd.prog 9 #[.int .i64 1, .int .i64 2, .int .i64 32767, .int .i64 1] W fun e w' => e = .returned (.tuple #[.int .i64 (-32768), .int .i64 0]) ∧ Below W.heap.size W w' := fun W hG => by
    have h := two_any 1 2 32767 1 W hG
    rw [ex_add] at h; exact h
  have c1 : ∀ W, Glo W → Calls Tryd.prog 9 #[.int .i64 4, .int .i64 2, .int .i64 (-7), .int .i64 2] W fun e w' => e = .returned (.tuple #[.int .i64 (-3), .int .i64 0]) ∧ Below W.heap.size W w' := fun W hG => by
    have h := two_any 4 2 (-7) 2 W hG
    rw [ex_div] at h; exact h
  have c2 : ∀ W, Glo W → Calls Tryd.prog 9 #[.int .i64 5, .int .i64 2, .int .i64 (-7), .int .i64 2] W fun e w' => e = .returned (.tuple #[.int .i64 (-1), .int .i64 0]) ∧ Below W.heap.size W w' := fun W hG => by
    have h := two_any 5 2 (-7) 2 W hG
    rw [ex_rem] at h; exact h
  have c3 : ∀ W, Glo W → Calls Tryd.prog 9 #[.int .i64 4, .int .i64 2, .int .i64 (-32768), .int .i64 (-1)] W fun e w' => e = .returned (.tuple #[.int .i64 (-32768), .int .i64 0]) ∧ Below W.heap.size W w' := fun W hG => by
    have h := two_any 4 2 (-32768) (-1) W hG
    rw [ex_least] at h; exact h
  have c4 : ∀ W, Glo W → Calls Tryd.prog 8 #[.int .i64 16, .int .i64 2, .int .i64 5] W fun e w' => e = .returned (.tuple #[.int .i64 (-6), .int .i64 0]) ∧ Below W.heap.size W w' := fun W hG => by
    have h := one_any 16 2 5 W hG
    rw [ex_not] at h; exact h
  have c5 : ∀ W, Glo W → Calls Tryd.prog 9 #[.int .i64 4, .int .i64 2, .int .i64 5, .int .i64 0] W fun e w' => e = .returned (.tuple #[.int .i64 0, .int .i64 41]) ∧ Below W.heap.size W w' := fun W hG => by
    have h := two_any 4 2 5 0 W hG
    rw [ex_zero] at h; exact h
  clear hg
  go_enter Tryd.func5, Tryd.ntmps5
  go_wp2_with fail
  go_loopw [15] (fun i wr => ∃ k : Nat, k ≤ 4 ∧ i = .int .i64 k ∧ Below (w.heap.size + 1) (w.alloc (.cells #[.int .i64 1, .int .i64 32767, .int .i64 1, .int .i64 (-32768), .int .i64 4, .int .i64 (-7), .int .i64 2, .int .i64 (-3), .int .i64 5, .int .i64 (-7), .int .i64 2, .int .i64 (-1), .int .i64 4, .int .i64 (-32768), .int .i64 (-1), .int .i64 (-32768)] 34)) wr) (fun i _ => 4 - (intOf i).toNat)
  case atStart => exact ⟨0, by omega, rfl, Below.refl _ _⟩
  case round =>
    obtain ⟨k, hk, rfl, hbel⟩ := hrel
    have HB := hide hbel
    have HB0 := hide (show Below w.heap.size w wr from ((Below.refl _ _).alloc (Nat.le_refl _) _).trans (hbel.mono (by omega)))
    clear hbel
    have HGr := hide (HG.out.below HB0.out H0.out)
    by_cases hlt : k < 4
    · have hk4 : k = 0 ∨ k = 1 ∨ k = 2 ∨ k = 3 := by omega
      have cell := fun (j : Nat) (v : Value) (h : (#[.int .i64 1, .int .i64 32767, .int .i64 1, .int .i64 (-32768), .int .i64 4, .int .i64 (-7), .int .i64 2, .int .i64 (-3), .int .i64 5, .int .i64 (-7), .int .i64 2, .int .i64 (-1), .int .i64 4, .int .i64 (-32768), .int .i64 (-1), .int .i64 (-32768)] : Array Value)[j]? = some v) => (HB.out.cell (p := ⟨w.heap.size, j, none⟩) (by simp)).trans ((cell_of_row (w.alloc (.cells #[.int .i64 1, .int .i64 32767, .int .i64 1, .int .i64 (-32768), .int .i64 4, .int .i64 (-7), .int .i64 2, .int .i64 (-3), .int .i64 5, .int .i64 (-7), .int .i64 2, .int .i64 (-1), .int .i64 4, .int .i64 (-32768), .int .i64 (-1), .int .i64 (-32768)] 34)) w.heap.size j _ 34 (0, 0) (heap_alloc_new _ _)).trans h)
      clear hlt hk
      rcases hk4 with rfl | rfl | rfl | rfl
      · have q0 := cell 0 _ rfl
        have q1 := cell 1 _ rfl
        have q2 := cell 2 _ rfl
        have q3 := cell 3 _ rfl
        clear cell
        go_wp2_with fail
        refine (c0 _ (HGr.out.below ((Below.refl _ _).alloc (Nat.le_refl _) _) HGr.out.lt)).mono ?_
        rintro e w1 ⟨rfl, hb1⟩
        have x3 := (hb1.cell (p := ⟨wr.heap.size, 3, none⟩) (by simp)).trans ((cell_of_row _ _ 3 _ 34 (0, 0) (heap_alloc_new _ _)).trans rfl)
        have HB2 := hide (show Below (w.heap.size + 1) _ w1 from HB.out.trans (((Below.refl _ _).alloc (by have := HB.out.size; simpa using this) _).trans (hb1.mono (by have := HB.out.size; simp at this ⊢; omega))))
        clear hb1 c0 c1 c2 c3 c4 c5
        go_wp2_with fail
        go_roundw
        case rel => exact ⟨1, by decide, by go_num, HB2.out⟩
        case measure => simp [intOf]
      · have q0 := cell 4 _ rfl
        have q1 := cell 5 _ rfl
        have q2 := cell 6 _ rfl
        have q3 := cell 7 _ rfl
        clear cell
        go_wp2_with fail
        refine (c1 _ (HGr.out.below ((Below.refl _ _).alloc (Nat.le_refl _) _) HGr.out.lt)).mono ?_
        rintro e w1 ⟨rfl, hb1⟩
        have x3 := (hb1.cell (p := ⟨wr.heap.size, 3, none⟩) (by simp)).trans ((cell_of_row _ _ 3 _ 34 (0, 0) (heap_alloc_new _ _)).trans rfl)
        have HB2 := hide (show Below (w.heap.size + 1) _ w1 from HB.out.trans (((Below.refl _ _).alloc (by have := HB.out.size; simpa using this) _).trans (hb1.mono (by have := HB.out.size; simp at this ⊢; omega))))
        clear hb1 c0 c1 c2 c3 c4 c5
        go_wp2_with fail
        go_roundw
        case rel => exact ⟨2, by decide, by go_num, HB2.out⟩
        case measure => simp [intOf]
      · have q0 := cell 8 _ rfl
        have q1 := cell 9 _ rfl
        have q2 := cell 10 _ rfl
        have q3 := cell 11 _ rfl
        clear cell
        go_wp2_with fail
        refine (c2 _ (HGr.out.below ((Below.refl _ _).alloc (Nat.le_refl _) _) HGr.out.lt)).mono ?_
        rintro e w1 ⟨rfl, hb1⟩
        have x3 := (hb1.cell (p := ⟨wr.heap.size, 3, none⟩) (by simp)).trans ((cell_of_row _ _ 3 _ 34 (0, 0) (heap_alloc_new _ _)).trans rfl)
        have HB2 := hide (show Below (w.heap.size + 1) _ w1 from HB.out.trans (((Below.refl _ _).alloc (by have := HB.out.size; simpa using this) _).trans (hb1.mono (by have := HB.out.size; simp at this ⊢; omega))))
        clear hb1 c0 c1 c2 c3 c4 c5
        go_wp2_with fail
        go_roundw
        case rel => exact ⟨3, by decide, by go_num, HB2.out⟩
        case measure => simp [intOf]
      · have q0 := cell 12 _ rfl
        have q1 := cell 13 _ rfl
        have q2 := cell 14 _ rfl
        have q3 := cell 15 _ rfl
        clear cell
        go_wp2_with fail
        refine (c3 _ (HGr.out.below ((Below.refl _ _).alloc (Nat.le_refl _) _) HGr.out.lt)).mono ?_
        rintro e w1 ⟨rfl, hb1⟩
        have x3 := (hb1.cell (p := ⟨wr.heap.size, 3, none⟩) (by simp)).trans ((cell_of_row _ _ 3 _ 34 (0, 0) (heap_alloc_new _ _)).trans rfl)
        have HB2 := hide (show Below (w.heap.size + 1) _ w1 from HB.out.trans (((Below.refl _ _).alloc (by have := HB.out.size; simpa using this) _).trans (hb1.mono (by have := HB.out.size; simp at this ⊢; omega))))
        clear hb1 c0 c1 c2 c3 c4 c5
        go_wp2_with fail
        go_roundw
        case rel => exact ⟨4, by decide, by go_num, HB2.out⟩
        case measure => simp [intOf]
    · have hk4 : k = 4 := by omega
      subst hk4
      clear hlt hk
      clear c0 c1 c2 c3 HB
      go_wp2_with fail
      refine (c4 _ HGr.out).mono ?_
      rintro e w1 ⟨rfl, hb1⟩
      have HG1 := hide (HGr.out.below hb1 HGr.out.lt)
      have HB1 := hide (HB0.out.trans (hb1.mono HB0.out.size))
      clear hb1 c4 HGr HB0
      go_wp2_with fail
      refine (c5 _ HG1.out).mono ?_
      rintro e w2 ⟨rfl, hb2⟩
      have HB2 := hide (HB1.out.trans (hb2.mono HB1.out.size))
      clear hb2 c5 HG1 HB1
      go_wp2
      go_ret
      exact ⟨rfl, HB2.out⟩
end Go.Proofs.YtffeigdgleohlabDoor
