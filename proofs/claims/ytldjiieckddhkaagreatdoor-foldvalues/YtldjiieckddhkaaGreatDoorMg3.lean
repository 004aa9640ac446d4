/- EnW | EoW -/
import Derived.Test.YtldjiieckddhkaaGreatDoorMg1
import Derived.Test.YtldjiieckddhkaaGreatDoorMg2
import Derived.Lib.Builder
namespace Go.Proofs.YtldjiieckddhkaaGreatDoor
open Go.RowKit
def tyB (t : Int) : Bool := decide (1 ≤ t) && decide (t ≤ 4)
set_option maxRecDepth 100000 in
theorem isType_any (t : Int) (w : World) : Calls Tryz.prog 32 #[.int .i64 t] w fun e w' => e = .returned (.bool (tyB t)) ∧ w' = w := by
  have E := hide (show tyB t = (decide (1 ≤ t) && decide (t ≤ 4)) from rfl)
  by_cases h1 : 1 ≤ t
  · by_cases h2 : t ≤ 4
    · rw [E.out, decide_eq_true h1, decide_eq_true h2]
      clear E
      go_enter Tryz.func32, Tryz.ntmps32
      go_wp2
      go_ret
      exact ⟨rfl, rfl⟩
    · rw [E.out, decide_eq_true h1, decide_eq_false h2]
      clear E
      go_enter Tryz.func32, Tryz.ntmps32
      go_wp2
      go_ret
      exact ⟨rfl, rfl⟩
  · rw [E.out, decide_eq_false h1]
    clear E
    go_enter Tryz.func32, Tryz.ntmps32
    go_wp2
    go_ret
    exact ⟨rfl, rfl⟩
set_option maxRecDepth 100000 in
theorem fits_all (t n : Int) (w : World) (hg : TabAt w 0 spanTab) : Calls Tryz.prog 19 #[.int .i64 t, .int .i64 n] w fun e w' => e = .returned (.bool (fit6 t n)) ∧ w' = w := by
  have g0 := hg 2 _ rfl
  have g1 := hg 3 _ rfl
  have g2 := hg 4 _ rfl
  have g3 := hg 5 _ rfl
  have g4 := hg 6 _ rfl
  have g5 := hg 7 _ rfl
  have g6 := hg 8 _ rfl
  have g7 := hg 9 _ rfl
  clear hg
  have c := isType_any t
  by_cases ht : t = 1 ∨ t = 2 ∨ t = 3 ∨ t = 4
  · have E1 := hide (show fit6 1 n = (decide (0 ≤ n) && decide (n ≤ 1)) by
      show (decide (n = 0) || decide (n = 1)) = _
      rw [Bool.eq_iff_iff]; simp; omega)
    have E2 := hide (show fit6 2 n = (decide (-32768 ≤ n) && decide (n ≤ 32767)) from rfl)
    have E3 := hide (show fit6 3 n = (decide (-2147483648 ≤ n) && decide (n ≤ 2147483647)) from rfl)
    have E4 := hide (show fit6 4 n = (decide (-2147483648 ≤ n) && decide (n ≤ 2147483647)) from rfl)
    rcases ht with rfl | rfl | rfl | rfl
    all_goals
      go_enter Tryz.func19, Tryz.ntmps19
      go_wp2_with fail
      refine (c _).mono ?_
      rintro e w1 ⟨rfl, rfl⟩
      go_wp2
    all_goals
      go_ret
      refine ⟨ret_bool ?_, rfl⟩
      first
        | (rw [E1.out, Bool.eq_iff_iff]; simp; omega)
        | (rw [E2.out, Bool.eq_iff_iff]; simp; omega)
        | (rw [E3.out, Bool.eq_iff_iff]; simp; omega)
        | (rw [E4.out, Bool.eq_iff_iff]; simp; omega)
  · have E : Hid (fit6 t n = false) := by
      show _ = _
      unfold fit6
      rw [if_neg (by omega), if_neg (by omega), if_neg (by omega)]
    rw [show tyB t = false from by unfold tyB; rw [Bool.and_eq_false_iff]; simp; omega] at c
    go_enter Tryz.func19, Tryz.ntmps19
    go_wp2_with fail
    refine (c _).mono ?_
    rintro e w1 ⟨rfl, rfl⟩
    go_wp2
    go_ret
    exact ⟨ret_bool E.out.symm, rfl⟩
def numB (t n : Int) : Bool := if t = 0 then decide (-2147483648 ≤ n) && decide (n ≤ 2147483648) else fit6 t n
set_option maxRecDepth 100000 in
theorem isNumber_any (t n : Int) (w : World) (hg : TabAt w 0 spanTab) : Calls Tryz.prog 104 #[.int .i64 t, .int .i64 n] w fun e w' => e = .returned (.bool (numB t n)) ∧ w' = w := by
  by_cases ht : t = 0
  · subst ht
    have E : Hid (numB 0 n = (decide (-2147483648 ≤ n) && decide (n ≤ 2147483648))) := rfl
    clear hg
    by_cases h1 : (-2147483648 : Int) ≤ n
    · go_enter Tryz.func104, Tryz.ntmps104
      go_wp2
      go_ret
      exact ⟨ret_bool (by rw [E.out, Bool.eq_iff_iff]; simp; try omega), rfl⟩
    · go_enter Tryz.func104, Tryz.ntmps104
      go_wp2
      go_ret
      exact ⟨ret_bool (by rw [E.out, Bool.eq_iff_iff]; simp; try omega), rfl⟩
  · have E : Hid (numB t n = fit6 t n) := by show _ = _; rw [numB, if_neg ht]
    have c := fits_all t n w hg
    clear hg
    go_enter Tryz.func104, Tryz.ntmps104
    go_wp2_with fail
    refine c.mono ?_
    rintro e w1 ⟨rfl, rfl⟩
    go_wp2
    go_ret
    exact ⟨ret_bool E.out.symm, rfl⟩
end Go.Proofs.YtldjiieckddhkaaGreatDoor
namespace Go.Proofs.YtldjiieckddhkaaGreatDoor
open Go.RowKit
def opA (r : Int × Int × Bs × Int) : Value := .agg #[.int .i64 r.1, .int .i64 r.2.1, .string ⟨r.2.2.1.toArray⟩, .int .i64 r.2.2.2]
def opZ : Value := .agg #[.int .i64 0, .int .i64 0, .string ⟨#[]⟩, .int .i64 0]
def opFind (n : Int) : Option (Int × Int × Bs × Int) := opRows.find? fun r => decide (r.2.2.2 = n)
def opRes (n : Int) : Value := match opFind n with
  | some r => .tuple #[opA r, .bool true]
  | none => .tuple #[opZ, .bool false]
theorem size165' : (Tryz.prog.info? 165).map (·.size) = some 68 := by kernel_rfl
theorem size165 : (Tryz.prog.info? 165).map (·.size) = some opTab.length := size165'
set_option maxRecDepth 100000 in
theorem op_cells (k : Nat) (h : k < 17) : opTab.toArray.extract (k * 4) (k * 4 + 4) = #[.int .i64 (opRows[k]'h).1, .int .i64 (opRows[k]'h).2.1, .string ⟨(opRows[k]'h).2.2.1.toArray⟩, .int .i64 (opRows[k]'h).2.2.2] := by
  have hk : k = 0 ∨ k = 1 ∨ k = 2 ∨ k = 3 ∨ k = 4 ∨ k = 5 ∨ k = 6 ∨ k = 7 ∨ k = 8 ∨ k = 9 ∨ k = 10 ∨ k = 11 ∨ k = 12 ∨ k = 13 ∨ k = 14 ∨ k = 15 ∨ k = 16 := by omega
  rcases hk with rfl | rfl | rfl | rfl | rfl | rfl | rfl | rfl | rfl | rfl | rfl | rfl | rfl | rfl | rfl | rfl | rfl <;> rfl
theorem op_idx (k : Nat) (h : k < 17) (W : World) : (Instr.index 165 (.agg opTab.toArray) (.int .i64 (k : Int))).run Tryz.prog W = .ok (.agg #[.int .i64 (opRows[k]'h).1, .int .i64 (opRows[k]'h).2.1, .string ⟨(opRows[k]'h).2.2.1.toArray⟩, .int .i64 (opRows[k]'h).2.2.2]) W :=
  index_row Tryz.underlying165 (fun _ => Tryz.isAgg126 _) (fun _ => Tryz.sizeOf126 _) _ k h _ (op_cells k h) W
set_option maxRecDepth 100000 in
set_option maxHeartbeats 1600000 in
theorem opOf_any (n : Int) (w : World) (hg : TabAt w 2 opTab) (h1 : 2 < w.heap.size) : Calls Tryz.prog 107 #[.int .i64 n] w fun e w' => e = .returned (opRes n) ∧ Below w.heap.size w w' := by
  have ix : Hid (∀ (k : Nat) (h : k < 17) (W : World), (Instr.index 165 (.agg opTab.toArray) (.int .i64 (k : Int))).run Tryz.prog W = .ok (.agg #[.int .i64 (opRows[k]'h).1, .int .i64 (opRows[k]'h).2.1, .string ⟨(opRows[k]'h).2.2.1.toArray⟩, .int .i64 (opRows[k]'h).2.2.2]) W) := op_idx
  obtain ⟨KT, hT⟩ : ∃ KT, Value.agg opTab.toArray = KT := ⟨_, rfl⟩
  rw [hT] at ix
  have ht : ∀ o, TabAt (w.alloc o) 2 opTab := hg.alloc h1
  have B0 := hide ((Below.refl w.heap.size w).alloc (Nat.le_refl _) (.cells #[.int .i64 0, .int .i64 0, .string ⟨#[]⟩, .int .i64 0] 126))
  clear hg h1
  go_enter Tryz.func107, Tryz.ntmps107
  go_wp2_with ((with_reducible refine at_load (ty := 165) ?_); go_must (refine load_tab (b := 2) (t := opTab) (T := KT) rfl (ht _) hT Tryz.underlying165 rfl size165 ?_))
  clear ht hT
  go_loopw [7] (fun i wr => ∃ k : Nat, k ≤ 17 ∧ i = .int .i64 (k : Int) ∧ Hid (wr.heap[w.heap.size]? = some (.cells #[.int .i64 0, .int .i64 0, .string ⟨#[]⟩, .int .i64 0] 126) ∧ Below w.heap.size w wr ∧ (opRows.drop k).find? (fun r => decide (r.2.2.2 = n)) = opFind n)) (fun i _ => 17 - (intOf i).toNat)
  case atStart => exact ⟨0, by omega, rfl, heap_alloc_new w _, B0.out, rfl⟩
  case round =>
    clear B0
    obtain ⟨k, hk, rfl, hh⟩ := hrel
    have hblk := hh.out.1
    have HB := hide hh.out.2.1
    have hf := hh.out.2.2
    have z0 : w.heap.size < wr.heap.size := (Array.getElem?_eq_some_iff.1 hblk).1
    clear hh
    by_cases hlt : k < 17
    · have x0 := ix.out k hlt
      have i1 : (k : Int) < 17 := by omega
      rw [List.drop_eq_getElem_cons (show k < opRows.length from hlt), List.find?_cons] at hf
      generalize (opRows[k]'hlt) = r at *
      obtain ⟨r0, r1, r2, r3⟩ := r
      simp only [] at x0 hf
      obtain ⟨u, hu⟩ : ∃ u : ByteArray, u = ⟨r2.toArray⟩ := ⟨_, rfl⟩
      rw [← hu] at x0
      have HU := hide hu
      have zr := HB.out.size
      have B1 := HB.out.alloc zr (.cells #[.int .i64 r0, .int .i64 r1, .string u, .int .i64 r3] 126)
      have hblk1 : (wr.alloc (.cells #[.int .i64 r0, .int .i64 r1, .string u, .int .i64 r3] 126)).heap[w.heap.size]? = some (.cells #[.int .i64 0, .int .i64 0, .string ⟨#[]⟩, .int .i64 0] 126) := by
        rw [Lib.alloc_old wr _ w.heap.size z0]; exact hblk
      clear ix hu
      by_cases he : r3 = n
      · rw [decide_eq_true he] at hf
        have HF := hide hf
        subst he
        have e0 : ∀ j, wr.frozen? ⟨w.heap.size, j, none⟩ = false := fun j => Lib.frozen_of_heap hblk j
        have d0 : wr.cell? ⟨w.heap.size, 0, none⟩ = some (.int .i64 0) := by rw [Lib.cell_of_heap hblk]; rfl
        have d1 : wr.cell? ⟨w.heap.size, 1, none⟩ = some (.int .i64 0) := by rw [Lib.cell_of_heap hblk]; rfl
        have d2 : wr.cell? ⟨w.heap.size, 2, none⟩ = some (.string ⟨#[]⟩) := by rw [Lib.cell_of_heap hblk]; rfl
        have d3 : wr.cell? ⟨w.heap.size, 3, none⟩ = some (.int .i64 0) := by rw [Lib.cell_of_heap hblk]; rfl
        have BB := hide B1
        clear hf hblk hblk1 B1
        go_wp2
        refine bodyPost_ret (v := .tuple #[.agg #[.int .i64 r0, .int .i64 r1, .string u, .int .i64 r3], .bool true]) ?_ rfl ⟨?_, ?_⟩
        · simp [results, Tryz.results107, go_sem, *]
        · rw [opRes, ← HF.out, HU.out]; rfl
        · exact ((((HB.out.setCell (p := ⟨w.heap.size, 0, none⟩) (Nat.le_refl _) _).setCell (p := ⟨w.heap.size, 1, none⟩) (Nat.le_refl _) _).setCell (p := ⟨w.heap.size, 2, none⟩) (Nat.le_refl _) _).setCell (p := ⟨w.heap.size, 3, none⟩) (Nat.le_refl _) _).alloc (by simp; omega) _
      · rw [decide_eq_false he] at hf
        have HF := hide hf
        have hen : (r3 == n) = false := by rw [beq_eq_false_iff_ne]; exact he
        have BB := hide (And.intro hblk1 B1)
        clear hf hblk hblk1 B1 he
        go_wp2
        go_roundw
        case rel => exact ⟨k + 1, by omega, by go_num, BB.out.1, BB.out.2, HF.out⟩
        case measure => simp [intOf]; omega
    · obtain rfl : k = 17 := by omega
      have HF : Hid (opFind n = none) := hf.symm
      have e0 : ∀ j, wr.frozen? ⟨w.heap.size, j, none⟩ = false := fun j => Lib.frozen_of_heap hblk j
      have d0 : wr.cell? ⟨w.heap.size, 0, none⟩ = some (.int .i64 0) := by rw [Lib.cell_of_heap hblk]; rfl
      have d1 : wr.cell? ⟨w.heap.size, 1, none⟩ = some (.int .i64 0) := by rw [Lib.cell_of_heap hblk]; rfl
      have d2 : wr.cell? ⟨w.heap.size, 2, none⟩ = some (.string ⟨#[]⟩) := by rw [Lib.cell_of_heap hblk]; rfl
      have d3 : wr.cell? ⟨w.heap.size, 3, none⟩ = some (.int .i64 0) := by rw [Lib.cell_of_heap hblk]; rfl
      clear hf hblk ix
      go_wp2
      refine bodyPost_ret (v := .tuple #[opZ, .bool false]) ?_ rfl ⟨?_, ?_⟩
      · simp [results, Tryz.results107, go_sem, opZ, *]
      · rw [opRes, HF.out]
      · exact (((HB.out.setCell (p := ⟨w.heap.size, 0, none⟩) (Nat.le_refl _) _).setCell (p := ⟨w.heap.size, 1, none⟩) (Nat.le_refl _) _).setCell (p := ⟨w.heap.size, 2, none⟩) (Nat.le_refl _) _).setCell (p := ⟨w.heap.size, 3, none⟩) (Nat.le_refl _) _
def cvA (r : Bs × Int) : Value := .agg #[.string ⟨r.1.toArray⟩, .int .i64 r.2]
def cvZ : Value := .agg #[.string ⟨#[]⟩, .int .i64 0]
def cvFind (n : Int) : Option (Bs × Int) := cvRows.find? fun r => decide (r.2 = n)
def cvRes (n : Int) : Value := match cvFind n with
  | some r => .tuple #[cvA r, .bool true]
  | none => .tuple #[cvZ, .bool false]
theorem size166' : (Tryz.prog.info? 166).map (·.size) = some 6 := by kernel_rfl
theorem size166 : (Tryz.prog.info? 166).map (·.size) = some cvTab.length := size166'
theorem cv_cells (k : Nat) (h : k < 3) : cvTab.toArray.extract (k * 2) (k * 2 + 2) = #[.string ⟨(cvRows[k]'h).1.toArray⟩, .int .i64 (cvRows[k]'h).2] := by
  have hk : k = 0 ∨ k = 1 ∨ k = 2 := by omega
  rcases hk with rfl | rfl | rfl <;> rfl
theorem cv_idx (k : Nat) (h : k < 3) (W : World) : (Instr.index 166 (.agg cvTab.toArray) (.int .i64 (k : Int))).run Tryz.prog W = .ok (.agg #[.string ⟨(cvRows[k]'h).1.toArray⟩, .int .i64 (cvRows[k]'h).2]) W :=
  index_row Tryz.underlying166 (fun _ => Tryz.isAgg130 _) (fun _ => Tryz.sizeOf130 _) _ k h _ (cv_cells k h) W
set_option maxRecDepth 100000 in
set_option maxHeartbeats 1600000 in
theorem cvTo_any (n : Int) (w : World) (hg : TabAt w 3 cvTab) (h1 : 3 < w.heap.size) : Calls Tryz.prog 108 #[.int .i64 n] w fun e w' => e = .returned (cvRes n) ∧ Below w.heap.size w w' := by
  have ix : Hid (∀ (k : Nat) (h : k < 3) (W : World), (Instr.index 166 (.agg cvTab.toArray) (.int .i64 (k : Int))).run Tryz.prog W = .ok (.agg #[.string ⟨(cvRows[k]'h).1.toArray⟩, .int .i64 (cvRows[k]'h).2]) W) := cv_idx
  obtain ⟨KT, hT⟩ : ∃ KT, Value.agg cvTab.toArray = KT := ⟨_, rfl⟩
  rw [hT] at ix
  have ht : ∀ o, TabAt (w.alloc o) 3 cvTab := hg.alloc h1
  have B0 := hide ((Below.refl w.heap.size w).alloc (Nat.le_refl _) (.cells #[.string ⟨#[]⟩, .int .i64 0] 130))
  clear hg h1
  go_enter Tryz.func108, Tryz.ntmps108
  go_wp2_with ((with_reducible refine at_load (ty := 166) ?_); go_must (refine load_tab (b := 3) (t := cvTab) (T := KT) rfl (ht _) hT Tryz.underlying166 rfl size166 ?_))
  clear ht hT
  go_loopw [7] (fun i wr => ∃ k : Nat, k ≤ 3 ∧ i = .int .i64 (k : Int) ∧ Hid (wr.heap[w.heap.size]? = some (.cells #[.string ⟨#[]⟩, .int .i64 0] 130) ∧ Below w.heap.size w wr ∧ (cvRows.drop k).find? (fun r => decide (r.2 = n)) = cvFind n)) (fun i _ => 3 - (intOf i).toNat)
  case atStart => exact ⟨0, by omega, rfl, heap_alloc_new w _, B0.out, rfl⟩
  case round =>
    clear B0
    obtain ⟨k, hk, rfl, hh⟩ := hrel
    have hblk := hh.out.1
    have HB := hide hh.out.2.1
    have hf := hh.out.2.2
    have z0 : w.heap.size < wr.heap.size := (Array.getElem?_eq_some_iff.1 hblk).1
    have e0 : ∀ j, wr.frozen? ⟨w.heap.size, j, none⟩ = false := fun j => Lib.frozen_of_heap hblk j
    have d0 : wr.cell? ⟨w.heap.size, 0, none⟩ = some (.string ⟨#[]⟩) := by rw [Lib.cell_of_heap hblk]; rfl
    have d1 : wr.cell? ⟨w.heap.size, 1, none⟩ = some (.int .i64 0) := by rw [Lib.cell_of_heap hblk]; rfl
    clear hh
    by_cases hlt : k < 3
    · have x0 := ix.out k hlt
      have i1 : (k : Int) < 3 := by omega
      rw [List.drop_eq_getElem_cons (show k < cvRows.length from hlt), List.find?_cons] at hf
      generalize (cvRows[k]'hlt) = r at *
      obtain ⟨r0, r1⟩ := r
      simp only [] at x0 hf
      obtain ⟨u, hu⟩ : ∃ u : ByteArray, u = ⟨r0.toArray⟩ := ⟨_, rfl⟩
      rw [← hu] at x0
      have HU := hide hu
      have zr := HB.out.size
      have B1 := HB.out.alloc zr (.cells #[.string u, .int .i64 r1] 130)
      have hblk1 : (wr.alloc (.cells #[.string u, .int .i64 r1] 130)).heap[w.heap.size]? = some (.cells #[.string ⟨#[]⟩, .int .i64 0] 130) := by
        rw [Lib.alloc_old wr _ w.heap.size z0]; exact hblk
      clear ix hu
      by_cases he : r1 = n
      · rw [decide_eq_true he] at hf
        have HF := hide hf
        subst he
        clear hf hblk hblk1 B1
        go_wp2
        refine bodyPost_ret (v := .tuple #[.agg #[.string u, .int .i64 r1], .bool true]) ?_ rfl ⟨?_, ?_⟩
        · simp [results, Tryz.results108, go_sem, *]
        · rw [cvRes, ← HF.out, HU.out]; rfl
        · exact ((HB.out.setCell (p := ⟨w.heap.size, 0, none⟩) (Nat.le_refl _) _).setCell (p := ⟨w.heap.size, 1, none⟩) (Nat.le_refl _) _).alloc (by simp; omega) _
      · rw [decide_eq_false he] at hf
        have HF := hide hf
        have hen : (r1 == n) = false := by rw [beq_eq_false_iff_ne]; exact he
        have BB := hide (And.intro hblk1 B1)
        clear hf hblk hblk1 B1 he d0 d1 e0
        go_wp2
        go_roundw
        case rel => exact ⟨k + 1, by omega, by go_num, BB.out.1, BB.out.2, HF.out⟩
        case measure => simp [intOf]; omega
    · obtain rfl : k = 3 := by omega
      have HF : Hid (cvFind n = none) := hf.symm
      clear hf hblk ix
      go_wp2
      refine bodyPost_ret (v := .tuple #[cvZ, .bool false]) ?_ rfl ⟨?_, ?_⟩
      · simp [results, Tryz.results108, go_sem, cvZ, *]
      · rw [cvRes, HF.out]
      · exact (HB.out.setCell (p := ⟨w.heap.size, 0, none⟩) (Nat.le_refl _) _).setCell (p := ⟨w.heap.size, 1, none⟩) (Nat.le_refl _) _
set_option maxRecDepth 100000 in
set_option maxHeartbeats 1600000 in
theorem operands_any (k n t : Int) (s f : ByteArray) (w : World) : Calls Tryz.prog 109 #[.agg #[.int .i64 k, .int .i64 n, .int .i64 t, .string s, .string f]] w fun e w' => e = .returned (.int .i64 ((takes ⟨k, [], [], n, t⟩ : Nat) : Int)) ∧ Below w.heap.size w w' := by
  have B0 := hide ((Below.refl w.heap.size w).alloc (Nat.le_refl _) (.cells #[.int .i64 k, .int .i64 n, .int .i64 t, .string s, .string f] 38))
  have HT : Hid (takes ⟨k, [], [], n, t⟩ = if k = 3 ∨ k = 6 then 1 else if k = 5 ∧ (n = 15 ∨ n = 16) then 1 else if k = 5 then 2 else 0) := rfl
  by_cases h3 : k = 3
  · subst h3
    rw [if_pos (.inl rfl)] at HT
    go_enter Tryz.func109, Tryz.ntmps109
    go_wp2
    go_ret
    exact ⟨by rw [HT.out]; rfl, B0.out⟩
  by_cases h6 : k = 6
  · subst h6
    rw [if_pos (.inr rfl)] at HT
    go_enter Tryz.func109, Tryz.ntmps109
    go_wp2
    go_ret
    exact ⟨by rw [HT.out]; rfl, B0.out⟩
  rw [if_neg (by omega)] at HT
  by_cases h5 : k = 5
  · subst h5
    by_cases h15 : n = 15
    · subst h15
      rw [if_pos (by omega)] at HT
      go_enter Tryz.func109, Tryz.ntmps109
      go_wp2
      go_ret
      exact ⟨by rw [HT.out]; rfl, B0.out⟩
    by_cases h16 : n = 16
    · subst h16
      rw [if_pos (by omega)] at HT
      go_enter Tryz.func109, Tryz.ntmps109
      go_wp2
      go_ret
      exact ⟨by rw [HT.out]; rfl, B0.out⟩
    rw [if_neg (by omega), if_pos rfl] at HT
    have q1 : (n == 15) = false := by rw [beq_eq_false_iff_ne]; exact h15
    have q2 : (n == 16) = false := by rw [beq_eq_false_iff_ne]; exact h16
    go_enter Tryz.func109, Tryz.ntmps109
    go_wp2
    go_ret
    exact ⟨by rw [HT.out]; rfl, B0.out⟩
  · rw [if_neg (by omega), if_neg h5] at HT
    have q1 : (k == 3) = false := by rw [beq_eq_false_iff_ne]; exact h3
    have q2 : (k == 6) = false := by rw [beq_eq_false_iff_ne]; exact h6
    have q3 : (k == 5) = false := by rw [beq_eq_false_iff_ne]; exact h5
    go_enter Tryz.func109, Tryz.ntmps109
    go_wp2
    go_ret
    exact ⟨by rw [HT.out]; rfl, B0.out⟩
end Go.Proofs.YtldjiieckddhkaaGreatDoor
