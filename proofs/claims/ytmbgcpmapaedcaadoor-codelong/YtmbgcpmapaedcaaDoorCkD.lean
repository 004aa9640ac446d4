/- code: ruleOf. -/
import Derived.Test.YtmbgcpmapaedcaaDoorCkA
import Derived.Test.YtmbgcpmapaedcaaDoorN4FindW
namespace Go.Proofs.YtmbgcpmapaedcaaDoor
open Go.RowKit
/-- an operation's name -/
def opName (k : Int) : List UInt8 := if k = 1 then [80, 85, 83, 72] else if k = 2 then [76, 79, 65, 68] else if k = 3 then [83, 84, 79, 82, 69] else if k = 4 then [76, 79, 65, 68, 88] else if k = 5 then [83, 84, 79, 82, 69, 88] else if k = 6 then [84, 87, 79] else if k = 7 then [79, 78, 69] else if k = 8 then [84, 79] else if k = 9 then [74, 85, 77, 80] else if k = 10 then [70, 65, 76, 83, 69] else if k = 11 then [67, 65, 76, 76] else [69, 78, 68]
/-- the function of its row -/
def opFn (k : Int) : Nat := if k = 1 then 20 else if k = 2 ∨ k = 3 then 21 else if k = 4 ∨ k = 5 then 22 else if k = 6 then 23 else if k = 7 then 24 else if k = 8 then 25 else if k = 9 ∨ k = 10 then 26 else if k = 11 then 27 else 28
def opRow (k : Int) : Array Value := #[.string ⟨(opName k).toArray⟩, .int .u8 (hasN k : Int), .func (.func (opFn k)) #[] #[]]
def ruNone : Array Value := #[.string ⟨#[]⟩, .int .u8 0, .nilFunc]
def ruC : Array Value := (ruNone.toList ++ (List.range 12).flatMap fun (k : Nat) => (opRow ((k : Int) + 1)).toList).toArray
def ruZ : Array Value := ((List.range 13).flatMap fun _ => ruNone.toList).toArray
theorem info106 : (Tryd.prog.info? 54).map (fun i => (i.zero, i.size)) = some (some (.agg ruZ), 39) := by kernel_rfl
theorem zero106 (w : World) : (zeroValue 54).run Tryd.prog w = .ok (.agg ruZ) w := (zero_of_info info106).1 w
theorem size54 : (Tryd.prog.info? 54).map (·.size) = some ruC.size := (zero_of_info info106).2.trans (by kernel_rfl)
theorem size_zero : ruZ.size = ruC.size := by kernel_rfl
theorem ru_one : ruC.all (·.oneCell') = true := by kernel_rfl
theorem size44 : (Tryd.prog.info? 44).map (·.size) = some 3 := by kernel_rfl
theorem opRow_one (k : Int) : (opRow k).all (·.oneCell') = true := by
  unfold opRow
  rw [← Array.all_toList]; rfl
theorem ruNone_one : ruNone.all (·.oneCell') = true := by kernel_rfl
theorem ru_at (k : Nat) (h1 : 1 ≤ k) (h12 : k ≤ 12) : ruC[k * 3]? = some (.string ⟨(opName (k : Int)).toArray⟩) ∧ ruC[k * 3 + 1]? = some (.int .u8 (hasN (k : Int) : Int)) ∧ ruC[k * 3 + 2]? = some (.func (.func (opFn (k : Int))) #[] #[]) := by
  have : k = 1 ∨ k = 2 ∨ k = 3 ∨ k = 4 ∨ k = 5 ∨ k = 6 ∨ k = 7 ∨ k = 8 ∨ k = 9 ∨ k = 10 ∨ k = 11 ∨ k = 12 := by omega
  rcases this with rfl | rfl | rfl | rfl | rfl | rfl | rfl | rfl | rfl | rfl | rfl | rfl
  all_goals exact ⟨by rfl, by rfl, by rfl⟩
theorem ru_cell (w : World) (j : Nat) (v : Value) (h : ruC[j]? = some v) : ((w.alloc (.cells #[.string ⟨#[]⟩, .int .u8 0, .nilFunc] 44)).alloc (.cells ruC 54)).cell? ⟨w.heap.size + 1, j, none⟩ = some v :=
  (cell_of_row _ _ j ruC 54 (0, 0) (Four.two_at w _ _)).trans h
set_option maxRecDepth 100000 in
set_option maxHeartbeats 1600000 in
theorem rule_out (op : Int) (w : World) (ho : ¬ (1 ≤ op ∧ op ≤ 12)) : Calls Tryd.prog 12 #[.int .i64 op] w fun e w' => e = .returned (.tuple #[.agg ruNone, .bool false]) ∧ Below w.heap.size w w' := by
  have hz := zero106
  have h0 := size54
  have h1 := size_zero
  have h2 := ru_one
  have hR := hide (Four.heap_setRow_same _ w.heap.size ruNone (ruNone) 44 (Four.one_at w (.cells ruNone 44) (.cells ruC 54)))
  have hB := hide (Four.below_setRow' (Four.below2 w (.cells ruNone 44) (.cells ruC 54)) (ruNone) (Nat.le_refl w.heap.size))
  have hd : op < 1 ∨ (¬ op < 1 ∧ 13 ≤ op) := by omega
  clear ho
  rcases hd with hl | ⟨hl, hl2⟩
  all_goals
    go_enter Tryd.func12, Tryd.ntmps12
    go_wp2_with (first | ((with_reducible refine Four.at_build (dst := some 17) ?_); go_must (refine wpList_buildTo rfl 54 _ rfl (some 17) rfl ruC (by kernel_rfl) ?_)) | ((with_reducible refine Four.at_store (ty := 54) ?_); go_must (refine wpList_store_rowTo rfl 54 _ _ rfl rfl _ ruC rfl rfl 54 ruZ (Four.two_at w _ _) h0 h1 h2 ?_; rw [Four.two_set])) | ((with_reducible refine Four.at_store (ty := 44) ?_); go_must (refine wpList_store_rowTo rfl 44 _ _ rfl rfl w.heap.size (ruNone) rfl rfl 44 ruNone (Four.one_at w _ _) size44 rfl ruNone_one ?_)))
    refine bodyPost_ret (v := .tuple #[.agg (ruNone), .bool false]) ?_ rfl ⟨rfl, hB.out⟩
    exact Four.results_row_tmp Tryd.results12 _ _ w.heap.size 44 (ruNone) (0, 0) _ _ rfl rfl hR.out Tryd.underlying44 rfl size44
set_option maxRecDepth 100000 in
set_option maxHeartbeats 1600000 in
theorem rule_in (k : Nat) (hk1 : 1 ≤ k) (hk : k ≤ 12) (w : World) : Calls Tryd.prog 12 #[.int .i64 (k : Int)] w fun e w' => e = .returned (.tuple #[.agg (opRow (k : Int)), .bool true]) ∧ Below w.heap.size w w' := by
  have hz := zero106
  have h0 := size54
  have h1 := size_zero
  have h2 := ru_one
  have h3 := opRow_one (k : Int)
  have i0 : ¬ (k : Int) < 1 := by omega
  have i1 : (k : Int) < 13 := by omega
  have i2 : (0 : Int) ≤ (k : Int) := by omega
  obtain ⟨r0, r1, r2⟩ := ru_at k hk1 hk
  have q0 := ru_cell w _ _ r0
  have q1 := ru_cell w _ _ r1
  have q2 := ru_cell w _ _ r2
  have hR := hide (Four.heap_setRow_same _ w.heap.size ruNone (opRow (k : Int)) 44 (Four.one_at w (.cells ruNone 44) (.cells ruC 54)))
  have hB := hide (Four.below_setRow' (Four.below2 w (.cells ruNone 44) (.cells ruC 54)) (opRow (k : Int)) (Nat.le_refl w.heap.size))
  clear r0 r1 r2 hk hk1
  go_enter Tryd.func12, Tryd.ntmps12
  go_wp2_with (first | ((with_reducible refine Four.at_build (dst := some 17) ?_); go_must (refine wpList_buildTo rfl 54 _ rfl (some 17) rfl ruC (by kernel_rfl) ?_)) | ((with_reducible refine Four.at_store (ty := 54) ?_); go_must (refine wpList_store_rowTo rfl 54 _ _ rfl rfl _ ruC rfl rfl 54 ruZ (Four.two_at w _ _) h0 h1 h2 ?_; rw [Four.two_set])) | ((with_reducible refine Four.at_store (ty := 44) ?_); go_must (refine wpList_store_rowTo rfl 44 _ _ rfl rfl w.heap.size (opRow (k : Int)) rfl rfl 44 ruNone (Four.one_at w _ _) size44 rfl (h3) ?_)))
  refine bodyPost_ret (v := .tuple #[.agg (opRow (k : Int)), .bool true]) ?_ rfl ⟨rfl, hB.out⟩
  exact Four.results_row_tmp Tryd.results12 _ _ w.heap.size 44 (opRow (k : Int)) (0, 0) _ _ rfl rfl hR.out Tryd.underlying44 rfl size44
end Go.Proofs.YtmbgcpmapaedcaaDoor
