/- The contracts of expr.word, sign and number. -/
import Derived.Test.YtkicbmjjbnblfaaDoorReA
namespace Go.Proofs.YtkicbmjjbnblfaaDoor
open Go.RowKit
def zTok : Array Value := #[.int .i64 0, .string ⟨#[]⟩, .int .i64 0, .int .i64 0, .int .i64 0]
theorem zTok_cells {w : World} {b : Nat} (h : w.heap[b]? = some (.cells zTok 44 (0, 0))) :
    (w.cell? ⟨b, 0, none⟩ = some (.int .i64 0) ∧ w.cell? ⟨b, 1, none⟩ = some (.string ⟨#[]⟩) ∧ w.cell? ⟨b, 2, none⟩ = some (.int .i64 0) ∧ w.cell? ⟨b, 3, none⟩ = some (.int .i64 0) ∧ w.cell? ⟨b, 4, none⟩ = some (.int .i64 0)) ∧ (∀ j, w.frozen? ⟨b, j, none⟩ = false) :=
  ⟨⟨Lib.cell_of_heap h 0, Lib.cell_of_heap h 1, Lib.cell_of_heap h 2, Lib.cell_of_heap h 3, Lib.cell_of_heap h 4⟩, fun j => Lib.frozen_of_heap h j⟩
set_option maxRecDepth 100000 in
set_option maxHeartbeats 1600000 in
theorem wordTok_any (s : ByteArray) (hn : s.size ≤ 140737488355000) (w : World) :
    Calls Tryd.prog 43 #[.string s] w fun e w' => e = .returned (tvA ⟨1, s, 0, 0, 0⟩) ∧ Below w.heap.size w w' := by
  have B0 := (Below.refl w.heap.size w).alloc (Nat.le_refl _) (.cells zTok 44)
  have z0 := World.size_alloc w (.cells zTok 44)
  unfold zTok at B0 z0
  go_enter Tryd.func43, Tryd.ntmps43
  go_wp2_with fail
  refine (sclone_any s hn _).mono ?_
  rintro e w1 ⟨rfl, hb1⟩
  have B1 := hide (B0.trans (hb1.mono B0.size))
  obtain ⟨⟨c0, c1, c2, c3, c4⟩, c5⟩ := zTok_cells (w := w1) (b := w.heap.size) ((hb1.block _ (by rw [z0]; omega)).trans (heap_alloc_new w _))
  clear hb1 B0 z0
  go_wp2
  refine bodyPost_ret (v := tvA ⟨1, s, 0, 0, 0⟩) ?_ rfl ⟨rfl, ?_⟩
  · simp [results, Tryd.results43, go_sem, tvA, c0, c1, c2, c3, c4]
  · exact below5 B1.out (Nat.le_refl _) _ _ _ _ _
set_option maxRecDepth 100000 in
set_option maxHeartbeats 1600000 in
theorem signTok_any (s : ByteArray) (w : World) :
    Calls Tryd.prog 45 #[.string s] w fun e w' => e = .returned (tvA ⟨3, s, 0, 0, 0⟩) ∧ Below w.heap.size w w' := by
  go_enter Tryd.func45, Tryd.ntmps45
  go_wp2
  refine bodyPost_ret (v := tvA ⟨3, s, 0, 0, 0⟩) ?_ rfl ⟨rfl, ?_⟩
  · simp [results, Tryd.results45, go_sem, tvA]
  · exact (Below.refl w.heap.size w).alloc (Nat.le_refl _) _
/-- the token of a number -/
def numTok (n t : Int) : Tv := if t ≠ 1 then ⟨2, ⟨#[]⟩, n, t, 0⟩ else if n = 1 then ⟨1, ⟨#[84, 82, 85, 69]⟩, 0, 0, 0⟩ else ⟨1, ⟨#[70, 65, 76, 83, 69]⟩, 0, 0, 0⟩
set_option maxRecDepth 100000 in
set_option maxHeartbeats 1600000 in
theorem numTok_any (pk pn pt : Int) (pS pF : ByteArray) (w : World) :
    Calls Tryd.prog 42 #[.agg #[.int .i64 pk, .int .i64 pn, .int .i64 pt, .string pS, .string pF]] w fun e w' => e = .returned (tvA (numTok pn pt)) ∧ Below w.heap.size w w' := by
  have B0 := ((Below.refl w.heap.size w).alloc (Nat.le_refl _) (.cells #[.int .i64 pk, .int .i64 pn, .int .i64 pt, .string pS, .string pF] 46)).alloc (by simp) (.cells zTok 44)
  have z0 := World.size_alloc (w.alloc (.cells #[.int .i64 pk, .int .i64 pn, .int .i64 pt, .string pS, .string pF] 46)) (.cells zTok 44)
  rw [World.size_alloc] at z0
  have Z0 := hide z0
  clear z0
  have hrow := heap_alloc_new (w.alloc (.cells #[.int .i64 pk, .int .i64 pn, .int .i64 pt, .string pS, .string pF] 46)) (.cells zTok 44)
  rw [World.size_alloc] at hrow
  by_cases ht : pt = 1
  · by_cases hn : pn = 1
    · have HE : Hid (numTok pn pt = ⟨1, ⟨#[84, 82, 85, 69]⟩, 0, 0, 0⟩) := by show _ = _; unfold numTok; rw [if_neg (by omega), if_pos hn]
      subst ht; subst hn
      unfold zTok at B0 hrow
      go_enter Tryd.func42, Tryd.ntmps42
      go_wp2_with fail
      refine (wordTok_any ⟨#[84, 82, 85, 69]⟩ (by decide) _).mono ?_
      rintro e w1 ⟨rfl, hb1⟩
      have B1 := hide (B0.trans (hb1.mono B0.size))
      obtain ⟨⟨c0, c1, c2, c3, c4⟩, c5⟩ := zTok_cells (w := w1) (b := w.heap.size + 1) ((hb1.block _ (by simp)).trans hrow)
      clear hb1 B0 Z0 hrow
      unfold tvA
      go_wp2
      refine bodyPost_ret (v := tvA ⟨1, ⟨#[84, 82, 85, 69]⟩, 0, 0, 0⟩) ?_ rfl ⟨by rw [HE.out], ?_⟩
      · simp [results, Tryd.results42, go_sem, tvA, c0, c1, c2, c3, c4]
      · exact below5 B1.out (by omega) _ _ _ _ _
    · have HE : Hid (numTok pn pt = ⟨1, ⟨#[70, 65, 76, 83, 69]⟩, 0, 0, 0⟩) := by show _ = _; unfold numTok; rw [if_neg (by omega), if_neg hn]
      have hb : (pn == 1) = false := by rw [beq_eq_false_iff_ne]; exact hn
      subst ht
      unfold zTok at B0 hrow
      go_enter Tryd.func42, Tryd.ntmps42
      go_wp2_with fail
      refine (wordTok_any ⟨#[70, 65, 76, 83, 69]⟩ (by decide) _).mono ?_
      rintro e w1 ⟨rfl, hb1⟩
      have B1 := hide (B0.trans (hb1.mono B0.size))
      obtain ⟨⟨c0, c1, c2, c3, c4⟩, c5⟩ := zTok_cells (w := w1) (b := w.heap.size + 1) ((hb1.block _ (by simp)).trans hrow)
      clear hb1 B0 Z0 hrow
      unfold tvA
      go_wp2
      refine bodyPost_ret (v := tvA ⟨1, ⟨#[70, 65, 76, 83, 69]⟩, 0, 0, 0⟩) ?_ rfl ⟨by rw [HE.out], ?_⟩
      · simp [results, Tryd.results42, go_sem, tvA, c0, c1, c2, c3, c4]
      · exact below5 B1.out (by omega) _ _ _ _ _
  · have HE : Hid (numTok pn pt = ⟨2, ⟨#[]⟩, pn, pt, 0⟩) := by show _ = _; unfold numTok; rw [if_pos ht]
    have hb : (pt == 1) = false := by rw [beq_eq_false_iff_ne]; exact ht
    clear B0 Z0 hrow
    go_enter Tryd.func42, Tryd.ntmps42
    go_wp2
    refine bodyPost_ret (v := tvA ⟨2, ⟨#[]⟩, pn, pt, 0⟩) ?_ rfl ⟨by rw [HE.out], ?_⟩
    · simp [results, Tryd.results42, go_sem, tvA]
    · exact ((Below.refl w.heap.size w).alloc (Nat.le_refl _) _).alloc (by simp) _
end Go.Proofs.YtkicbmjjbnblfaaDoor
