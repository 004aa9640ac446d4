/- The law's works. -/
import Derived.Test.YthifgfhgkdjkfaaDoorCdW
import Derived.Deep.QuietTactic
namespace Go.Proofs.YthifgfhgkdjkfaaDoor
open Go.RowKit
theorem ILst.of_ob {w : World} {g : Nat} {T : TypeId} {l : List Int} (h : Ob w g T (intC l).toArray) (n cap : Nat) (hn : n = l.length) : ILst w (.slice (some ⟨g, 0, none⟩) n cap) l := by
  subst hn
  refine ⟨_, g, 0, cap, rfl, fun _ => ⟨h.lt, rfl⟩, fun i x hx => ?_⟩
  rw [Nat.zero_add]
  refine h.cell i ?_
  rw [List.getElem?_toArray, intC_get, hx]; rfl
/-- a step that is taken, of a row of one's own -/
theorem step_own (k : Int) (l m : List Int) (now : Int) (h : stepE k l now = 0) (hm : stepL k l now = m) (g : Nat) (T : TypeId) (n cap n2 : Nat) (hn : n = l.length) (h2 : m.length = n2) (w : World) (hg : Glo w) (ho : Ob w g T (intC l).toArray) : Calls Tryd.prog 10 #[.int .i64 k, .slice (some ⟨g, 0, none⟩) n cap, .int .i64 now] w fun e w' => ∃ g2, e = .returned (.tuple #[.slice (some ⟨g2, 0, none⟩) n2 n2, .int .i64 0]) ∧ Ob w' g2 2 (intC m).toArray ∧ w.heap.size ≤ g2 ∧ Below w.heap.size w w' := by
  subst hm
  subst h2
  exact step12_ok k _ l now w (ILst.of_ob ho n cap hn) hg h
def wkL : Nat → List Int
  | 0 => [1, 5, 0, 0, 0, 0]
  | 1 => [1, 5, 0, 0, 0, 1]
  | 2 => [1, 5, 0, 3, 0, 1]
  | _ => [1, 5, 1, 5, 0, 1]
def wkT : Array Value := #[.int .i64 0, .int .i64 0, .int .i64 0, .int .i64 3, .int .i64 0, .int .i64 3, .int .i64 5, .int .i64 1, .int .i64 5]
set_option maxRecDepth 100000 in
set_option maxHeartbeats 3200000 in
theorem works_any (w : World) (hg : Glo w) : Calls Tryd.prog 15 #[] w fun e w' => e = .returned (.bool true) ∧ Below w.heap.size w w' := by
  have HG := hide hg
  clear hg
  have HG2 : Hid (∀ W, Below w.heap.size w W → Glo W) := fun W h => HG.out.below h HG.out.lt
  have HW : Hid (Ob ((w.alloc (.cells #[.int .i64 1, .int .i64 5, .int .i64 0, .int .i64 0, .int .i64 0, .int .i64 0] 2)).alloc (.cells wkT 60)) w.heap.size 2 (intC (wkL 0)).toArray ∧ Ob ((w.alloc (.cells #[.int .i64 1, .int .i64 5, .int .i64 0, .int .i64 0, .int .i64 0, .int .i64 0] 2)).alloc (.cells wkT 60)) (w.heap.size + 1) 60 wkT ∧ Below w.heap.size w ((w.alloc (.cells #[.int .i64 1, .int .i64 5, .int .i64 0, .int .i64 0, .int .i64 0, .int .i64 0] 2)).alloc (.cells wkT 60))) := by
    have o1 := Ob.new w 2 #[.int .i64 1, .int .i64 5, .int .i64 0, .int .i64 0, .int .i64 0, .int .i64 0]
    have o2 := Ob.new (w.alloc (.cells #[.int .i64 1, .int .i64 5, .int .i64 0, .int .i64 0, .int .i64 0, .int .i64 0] 2)) 60 wkT
    rw [World.size_alloc] at o2
    exact ⟨o1.on ((Below.refl _ _).alloc (Nat.le_refl _) _) o1.lt, o2, ((Below.refl _ _).alloc (Nat.le_refl _) _).alloc (by simp) _⟩
  go_enter Tryd.func15, Tryd.ntmps15
  go_wp2_with fail
  change Code.wp _ _ _ _ ((w.alloc (.cells #[.int .i64 1, .int .i64 5, .int .i64 0, .int .i64 0, .int .i64 0, .int .i64 0] 2)).alloc (.cells wkT 60))
  generalize ((w.alloc (.cells #[.int .i64 1, .int .i64 5, .int .i64 0, .int .i64 0, .int .i64 0, .int .i64 0] 2)).alloc (.cells wkT 60)) = W0 at *
  go_loopw [1, 13] (fun cv i wr => ∃ k : Nat, k ≤ 3 ∧ i = .int .i64 (k : Int) ∧ ∃ g, cv = .slice (some ⟨g, 0, none⟩) 6 6 ∧ Hid (Ob wr g 2 (intC (wkL k)).toArray ∧ w.heap.size ≤ g ∧ Ob wr (w.heap.size + 1) 60 wkT ∧ Below w.heap.size w wr)) (fun _ i _ => 3 - (intOf i).toNat)
  case atStart => exact ⟨0, by omega, rfl, w.heap.size, rfl, HW.out.1, Nat.le_refl _, HW.out.2.1, HW.out.2.2⟩
  case round =>
    obtain ⟨k, hk, rfl, g, rfl, hh⟩ := hrel
    have HO := hide hh.out.1
    have HL := hide hh.out.2.1
    have HT := hide hh.out.2.2.1
    have HB := hide hh.out.2.2.2
    clear hh HW
    obtain rfl | rfl | rfl | rfl : k = 0 ∨ k = 1 ∨ k = 2 ∨ k = 3 := by omega
    · have t0 : wr.cell? ⟨w.heap.size + 1, 0, none⟩ = some (.int .i64 0) := HT.out.cell 0 rfl
      have t1 : wr.cell? ⟨w.heap.size + 1, 1, none⟩ = some (.int .i64 0) := HT.out.cell 1 rfl
      have t2 : wr.cell? ⟨w.heap.size + 1, 2, none⟩ = some (.int .i64 0) := HT.out.cell 2 rfl
      have HB1 := hide (HB.out.alloc HB.out.size (.cells #[.int .i64 0, .int .i64 0, .int .i64 0] 60))
      have HX := hide (Ob.new wr 60 #[.int .i64 0, .int .i64 0, .int .i64 0])
      have mS := step_own 1 (wkL 0) (wkL 1) 0 (by decide +kernel) (by decide +kernel) g 2 6 6 6 rfl rfl (wr.alloc (.cells #[.int .i64 0, .int .i64 0, .int .i64 0] 60)) (HG2.out _ HB1.out) (HO.out.on ((Below.refl _ _).alloc (Nat.le_refl _) _) HO.out.lt)
      have HS : Hid ((wr.alloc (.cells #[.int .i64 0, .int .i64 0, .int .i64 0] 60)).heap.size = wr.heap.size + 1) := by show _ = _; simp
      go_wp2_with (first | (go_at_call 10; refine mS.mono ?_; rintro e_ w1 ⟨g2, rfl, o1, l1, b1⟩; have O1 := hide o1; have B1 := hide b1; have L1 := hide l1; clear o1 b1 l1; have d2 : w1.cell? ⟨g2, 2, none⟩ = some (.int .i64 0) := O1.out.cell 2 rfl; have d3 : w1.cell? ⟨g2, 3, none⟩ = some (.int .i64 0) := O1.out.cell 3 rfl; have OX := hide (HX.out.on B1.out HX.out.lt); have x1 : w1.cell? ⟨wr.heap.size, 1, none⟩ = some (.int .i64 0) := OX.out.cell 1 rfl; have x2 : w1.cell? ⟨wr.heap.size, 2, none⟩ = some (.int .i64 0) := OX.out.cell 2 rfl))
      go_quiet (fail)
      go_wp2
      have B2 : Below wr.heap.size wr w1 := ((Below.refl _ _).alloc (Nat.le_refl _) _).trans (B1.out.mono (by rw [HS.out]; omega))
      have T1 := HT.out.on B2 HT.out.lt
      have B3 := HB.out.trans (B2.mono HB.out.size)
      go_roundw
      case rel => exact ⟨1, by omega, rfl, g2, rfl, O1.out, Nat.le_trans HB1.out.size L1.out, T1, ⟨B3.os, B3.tape, B3.output, B3.size, B3.block⟩⟩
      case measure => decide
    · have t0 : wr.cell? ⟨w.heap.size + 1, 3, none⟩ = some (.int .i64 3) := HT.out.cell 3 rfl
      have t1 : wr.cell? ⟨w.heap.size + 1, 4, none⟩ = some (.int .i64 0) := HT.out.cell 4 rfl
      have t2 : wr.cell? ⟨w.heap.size + 1, 5, none⟩ = some (.int .i64 3) := HT.out.cell 5 rfl
      have HB1 := hide (HB.out.alloc HB.out.size (.cells #[.int .i64 3, .int .i64 0, .int .i64 3] 60))
      have HX := hide (Ob.new wr 60 #[.int .i64 3, .int .i64 0, .int .i64 3])
      have mS := step_own 1 (wkL 1) (wkL 2) 3 (by decide +kernel) (by decide +kernel) g 2 6 6 6 rfl rfl (wr.alloc (.cells #[.int .i64 3, .int .i64 0, .int .i64 3] 60)) (HG2.out _ HB1.out) (HO.out.on ((Below.refl _ _).alloc (Nat.le_refl _) _) HO.out.lt)
      have HS : Hid ((wr.alloc (.cells #[.int .i64 3, .int .i64 0, .int .i64 3] 60)).heap.size = wr.heap.size + 1) := by show _ = _; simp
      go_wp2_with (first | (go_at_call 10; refine mS.mono ?_; rintro e_ w1 ⟨g2, rfl, o1, l1, b1⟩; have O1 := hide o1; have B1 := hide b1; have L1 := hide l1; clear o1 b1 l1; have d2 : w1.cell? ⟨g2, 2, none⟩ = some (.int .i64 0) := O1.out.cell 2 rfl; have d3 : w1.cell? ⟨g2, 3, none⟩ = some (.int .i64 3) := O1.out.cell 3 rfl; have OX := hide (HX.out.on B1.out HX.out.lt); have x1 : w1.cell? ⟨wr.heap.size, 1, none⟩ = some (.int .i64 0) := OX.out.cell 1 rfl; have x2 : w1.cell? ⟨wr.heap.size, 2, none⟩ = some (.int .i64 3) := OX.out.cell 2 rfl))
      go_quiet (fail)
      go_wp2
      have B2 : Below wr.heap.size wr w1 := ((Below.refl _ _).alloc (Nat.le_refl _) _).trans (B1.out.mono (by rw [HS.out]; omega))
      have T1 := HT.out.on B2 HT.out.lt
      have B3 := HB.out.trans (B2.mono HB.out.size)
      go_roundw
      case rel => exact ⟨2, by omega, rfl, g2, rfl, O1.out, Nat.le_trans HB1.out.size L1.out, T1, ⟨B3.os, B3.tape, B3.output, B3.size, B3.block⟩⟩
      case measure => decide
    · have t0 : wr.cell? ⟨w.heap.size + 1, 6, none⟩ = some (.int .i64 5) := HT.out.cell 6 rfl
      have t1 : wr.cell? ⟨w.heap.size + 1, 7, none⟩ = some (.int .i64 1) := HT.out.cell 7 rfl
      have t2 : wr.cell? ⟨w.heap.size + 1, 8, none⟩ = some (.int .i64 5) := HT.out.cell 8 rfl
      have HB1 := hide (HB.out.alloc HB.out.size (.cells #[.int .i64 5, .int .i64 1, .int .i64 5] 60))
      have HX := hide (Ob.new wr 60 #[.int .i64 5, .int .i64 1, .int .i64 5])
      have mS := step_own 1 (wkL 2) (wkL 3) 5 (by decide +kernel) (by decide +kernel) g 2 6 6 6 rfl rfl (wr.alloc (.cells #[.int .i64 5, .int .i64 1, .int .i64 5] 60)) (HG2.out _ HB1.out) (HO.out.on ((Below.refl _ _).alloc (Nat.le_refl _) _) HO.out.lt)
      have HS : Hid ((wr.alloc (.cells #[.int .i64 5, .int .i64 1, .int .i64 5] 60)).heap.size = wr.heap.size + 1) := by show _ = _; simp
      go_wp2_with (first | (go_at_call 10; refine mS.mono ?_; rintro e_ w1 ⟨g2, rfl, o1, l1, b1⟩; have O1 := hide o1; have B1 := hide b1; have L1 := hide l1; clear o1 b1 l1; have d2 : w1.cell? ⟨g2, 2, none⟩ = some (.int .i64 1) := O1.out.cell 2 rfl; have d3 : w1.cell? ⟨g2, 3, none⟩ = some (.int .i64 5) := O1.out.cell 3 rfl; have OX := hide (HX.out.on B1.out HX.out.lt); have x1 : w1.cell? ⟨wr.heap.size, 1, none⟩ = some (.int .i64 1) := OX.out.cell 1 rfl; have x2 : w1.cell? ⟨wr.heap.size, 2, none⟩ = some (.int .i64 5) := OX.out.cell 2 rfl))
      go_quiet (fail)
      go_wp2
      have B2 : Below wr.heap.size wr w1 := ((Below.refl _ _).alloc (Nat.le_refl _) _).trans (B1.out.mono (by rw [HS.out]; omega))
      have T1 := HT.out.on B2 HT.out.lt
      have B3 := HB.out.trans (B2.mono HB.out.size)
      go_roundw
      case rel => exact ⟨3, by omega, rfl, g2, rfl, O1.out, Nat.le_trans HB1.out.size L1.out, T1, ⟨B3.os, B3.tape, B3.output, B3.size, B3.block⟩⟩
      case measure => decide
    · have f0 := HO.out.fr 0
      have c0 : wr.cell? ⟨g, 0, none⟩ = some (.int .i64 1) := HO.out.cell 0 rfl
      have HO2 : Hid (Ob (wr.setCell ⟨g, 0, none⟩ (.int .i64 0)) g 2 (intC [0, 5, 1, 5, 0, 1]).toArray) := HO.out.set 0 _ rfl
      have HB2 := hide (HB.out.setCell HL.out (p := ⟨g, 0, none⟩) (.int .i64 0))
      have mS := step_own 1 [0, 5, 1, 5, 0, 1] [0, 5, 0, 0, 0, 0] 6 (by decide +kernel) (by decide +kernel) g 2 6 6 6 rfl rfl (wr.setCell ⟨g, 0, none⟩ (.int .i64 0)) (HG2.out _ HB2.out) HO2.out
      go_wp2_with (first | (go_at_call 10; refine mS.mono ?_; rintro e_ w1 ⟨g2, rfl, o1, l1, b1⟩; have O1 := hide o1; have B1 := hide b1; clear o1 b1 l1; have d2 : w1.cell? ⟨g2, 2, none⟩ = some (.int .i64 0) := O1.out.cell 2 rfl; have d3 : w1.cell? ⟨g2, 3, none⟩ = some (.int .i64 0) := O1.out.cell 3 rfl))
      go_ret
      exact ⟨rfl, HB2.out.trans (B1.out.mono HB2.out.size)⟩
end Go.Proofs.YthifgfhgkdjkfaaDoor
