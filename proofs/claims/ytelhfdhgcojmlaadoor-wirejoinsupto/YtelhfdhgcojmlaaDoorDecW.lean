/- The contract of wire.Decode. -/
import Derived.Test.YtelhfdhgcojmlaaDoorListW
import Derived.Test.YtelhfdhgcojmlaaDoorFaultW
namespace Go.Proofs.YtelhfdhgcojmlaaDoor
open Go.RowKit
theorem owns_base {w : World} {base b e size n : Nat} {v : Value} {xs : List Value} (h : w.ownsRow base e size v n xs) (hb : b ≤ base) : w.ownsRow b e size v n xs := by
  refine ⟨h.1, ?_⟩
  rcases h.2 with h0 | ⟨g, cap, cur, hv, hg, r⟩
  · exact .inl h0
  · exact .inr ⟨g, cap, cur, hv, Nat.le_trans hb hg, r⟩
/-- what Decode leaves -/
def DecOut (B : List UInt8) (w : World) (e : Ending) (w' : World) : Prop :=
  ∃ (v : Value) (l : List It) (p : Nat) (c : Int), decB B = (l, p, c) ∧ e = .returned (.tuple #[v, .agg #[.int .i64 (p : Int), .int .i64 c]]) ∧ w'.ownsRow w.heap.size 38 3 v l.length (itsC l) ∧ Below w.heap.size w w'
theorem owns_set {w : World} {base e size n : Nat} {v : Value} {xs : List Value} (h : w.ownsRow base e size v n xs) (b o : Nat) (hb : b < base) (u : Value) : (w.setCell ⟨b, o, none⟩ u).ownsRow base e size v n xs := by
  refine ⟨h.1, ?_⟩
  rcases h.2 with h0 | ⟨g, cap, cur, hv, hg, hh, r⟩
  · exact .inl h0
  · exact .inr ⟨g, cap, cur, hv, hg, by rw [Below.heap_setCell _ _ _ _ (by show g ≠ b; omega)]; exact hh, r⟩
set_option maxRecDepth 100000 in
set_option maxHeartbeats 1600000 in
theorem decode_any (s : ByteArray) (hs : s.size ≤ 140737488355328) (w : World) (hg : Glo w) :
    Calls Tryd.prog 10 #[.string s] w (DecOut s.data.toList w) := by
  have HG := hide hg
  have h0 := hg.lt
  have c1 := fun W => readList_any s hs W
  clear hs hg
  go_enter Tryd.func10, Tryd.ntmps10
  go_wp2_with fail
  refine (c1 _).mono ?_
  rintro e w1 ⟨v, er, rfl, ⟨l, p, c, hdec, hcase⟩, hb1⟩
  have z1 : w.heap.size + 1 ≤ w1.heap.size := by have := hb1.size; simpa using this
  have k0 : w1.cell? ⟨w.heap.size, 0, none⟩ = some (.int .i64 0) := (hb1.cell (p := ⟨w.heap.size, 0, none⟩) (by simp)).trans (by simp)
  have k1 : w1.cell? ⟨w.heap.size, 1, none⟩ = some (.int .i64 0) := (hb1.cell (p := ⟨w.heap.size, 1, none⟩) (by simp)).trans (by simp)
  have f0 : w1.frozen? ⟨w.heap.size, 0, none⟩ = false := (hb1.frozen (p := ⟨w.heap.size, 0, none⟩) (by simp)).trans (by simp)
  have f1 : w1.frozen? ⟨w.heap.size, 1, none⟩ = false := (hb1.frozen (p := ⟨w.heap.size, 1, none⟩) (by simp)).trans (by simp)
  have B1 : Hid (Below w.heap.size w w1) := ((Below.refl _ _).alloc (Nat.le_refl _) _).trans (hb1.mono (by simp))
  have HD := hide hdec
  clear hb1 c1 hdec
  rcases hcase with ⟨rfl, rfl, rfl, hown⟩ | ⟨hc, rfl, rfl, ⟨rfl, rfl⟩ | rfl⟩
  · have HO : Hid (w1.ownsRow (w.heap.size + 1) 38 3 v l.length (itsC l)) := hide (by simpa using hown)
    clear hown
    go_wp2
    refine bodyPost_ret (v := .tuple #[v, .agg #[.int .i64 0, .int .i64 0]]) ?_ rfl ⟨v, l, 0, 0, HD.out, rfl, ?_, ?_⟩
    · simp [results, Tryd.results10, go_sem, k0, k1]
    · exact owns_base (owns_set (owns_set HO.out _ _ (by omega) _) _ _ (by omega) _) (by omega)
    · exact (B1.out.setCell (by simp) _).setCell (by simp) _
  · go_wp2_with fail
    refine (fault_ref c _ (HG.out.below B1.out h0)).mono ?_
    rintro e w2 ⟨rfl, hb2⟩
    have m0 : w2.cell? ⟨w.heap.size, 0, none⟩ = some (.int .i64 0) := (hb2.cell (p := ⟨w.heap.size, 0, none⟩) (by show w.heap.size < _; omega)).trans k0
    have m1 : w2.cell? ⟨w.heap.size, 1, none⟩ = some (.int .i64 0) := (hb2.cell (p := ⟨w.heap.size, 1, none⟩) (by show w.heap.size < _; omega)).trans k1
    have n0 : w2.frozen? ⟨w.heap.size, 0, none⟩ = false := (hb2.frozen (p := ⟨w.heap.size, 0, none⟩) (by show w.heap.size < _; omega)).trans f0
    have n1 : w2.frozen? ⟨w.heap.size, 1, none⟩ = false := (hb2.frozen (p := ⟨w.heap.size, 1, none⟩) (by show w.heap.size < _; omega)).trans f1
    have B2 : Hid (Below w.heap.size w w2) := B1.out.trans (hb2.mono (by omega))
    clear hb2 k0 k1 f0 f1 B1
    go_wp2
    refine bodyPost_ret (v := .tuple #[.slice none 0 0, .agg #[.int .i64 0, .int .i64 c]]) ?_ rfl ⟨_, [], 0, c, HD.out, rfl, World.ownsRow_nil _ _ _ _, ?_⟩
    · simp [results, Tryd.results10, go_sem, m0, m1]
    · exact (B2.out.setCell (by simp) _).setCell (by simp) _
  · go_wp2_with fail
    refine (fault_pl (p : Int) c _ (HG.out.below B1.out h0)).mono ?_
    rintro e w2 ⟨rfl, hb2⟩
    have m0 : w2.cell? ⟨w.heap.size, 0, none⟩ = some (.int .i64 0) := (hb2.cell (p := ⟨w.heap.size, 0, none⟩) (by show w.heap.size < _; omega)).trans k0
    have m1 : w2.cell? ⟨w.heap.size, 1, none⟩ = some (.int .i64 0) := (hb2.cell (p := ⟨w.heap.size, 1, none⟩) (by show w.heap.size < _; omega)).trans k1
    have n0 : w2.frozen? ⟨w.heap.size, 0, none⟩ = false := (hb2.frozen (p := ⟨w.heap.size, 0, none⟩) (by show w.heap.size < _; omega)).trans f0
    have n1 : w2.frozen? ⟨w.heap.size, 1, none⟩ = false := (hb2.frozen (p := ⟨w.heap.size, 1, none⟩) (by show w.heap.size < _; omega)).trans f1
    have B2 : Hid (Below w.heap.size w w2) := B1.out.trans (hb2.mono (by omega))
    clear hb2 k0 k1 f0 f1 B1
    go_wp2
    refine bodyPost_ret (v := .tuple #[.slice none 0 0, .agg #[.int .i64 (p : Int), .int .i64 c]]) ?_ rfl ⟨_, [], p, c, HD.out, rfl, World.ownsRow_nil _ _ _ _, ?_⟩
    · simp [results, Tryd.results10, go_sem, m0, m1]
    · exact (B2.out.setCell (by simp) _).setCell (by simp) _
end Go.Proofs.YtelhfdhgcojmlaaDoor
