/- The contract of num.find: the table of rows, and the row of an operation. | The contracts of the rows' functions: what comes of two values, or of one, ahead of wrapping; the document's pure. -/
import Derived.Test.YtlckedionmgjjaaDoorMg3
import Derived.Deep.WholeRow
import Derived.Deep.DeepMust
import Derived.Great.BuildSlice
import Derived.Test.YtlckedionmgjjaaDoorMg2
namespace Go.Proofs.YtlckedionmgjjaaDoor.Four
open Go.RowKit
def rowS (k : Nat) : Int := ([0, 28, 28, 12, 12, 12, 14, 14, 14, 30, 30, 28, 28, 28, 28, 28, 14] : List Int).getD k 0
def rowCmp (k : Nat) : Bool := Nat.ble 9 k && Nat.ble k 14
def rowDiv (k : Nat) : Bool := Nat.beq k 4 || Nat.beq k 5
def fnNo (k : Nat) : Nat := ([0, 85, 86, 87, 88, 89, 90, 91, 92, 93, 95, 96, 97, 98, 99, 100, 101] : List Nat).getD k 0
def rowTwo (k : Nat) : Value := if Nat.ble 1 k && Nat.ble k 14 then .func (.func (fnNo k)) #[] #[] else .nilFunc
def rowOne (k : Nat) : Value := if Nat.ble 15 k then .func (.func (fnNo k)) #[] #[] else .nilFunc
/-- a row's five cells -/
def rowV (k : Nat) : Array Value := #[.int .u8 (rowS k), .bool (rowCmp k), .bool (rowDiv k), rowTwo k, rowOne k]
def rowsC : Array Value := ((List.range 17).flatMap fun k => (rowV k).toList).toArray
def zeroC : Array Value := ((List.range 17).flatMap fun _ => [.int .u8 0, .bool false, .bool false, .nilFunc, .nilFunc]).toArray
theorem info57 : (Tryd.prog.info? 127).map (fun i => (i.zero, i.size)) = some (some (.agg zeroC), 85) := by kernel_rfl
theorem zero57 (w : World) : (zeroValue 127).run Tryd.prog w = .ok (.agg zeroC) w := (zero_of_info info57).1 w
theorem size127 : (Tryd.prog.info? 127).map (·.size) = some rowsC.size := (zero_of_info info57).2.trans (by kernel_rfl)
theorem zero_size : zeroC.size = rowsC.size := by kernel_rfl
theorem rows_one : rowsC.all (·.oneCell') = true := by kernel_rfl
theorem rows_at (k : Nat) (hk : k < 17) : rowsC[k * 5]? = some (.int .u8 (rowS k)) ∧ rowsC[k * 5 + 1]? = some (.bool (rowCmp k)) ∧ rowsC[k * 5 + 2]? = some (.bool (rowDiv k)) ∧ rowsC[k * 5 + 3]? = some (rowTwo k) ∧ rowsC[k * 5 + 4]? = some (rowOne k) := by
  have : k = 0 ∨ k = 1 ∨ k = 2 ∨ k = 3 ∨ k = 4 ∨ k = 5 ∨ k = 6 ∨ k = 7 ∨ k = 8 ∨ k = 9 ∨ k = 10 ∨ k = 11 ∨ k = 12 ∨ k = 13 ∨ k = 14 ∨ k = 15 ∨ k = 16 := by omega
  rcases this with rfl | rfl | rfl | rfl | rfl | rfl | rfl | rfl | rfl | rfl | rfl | rfl | rfl | rfl | rfl | rfl | rfl
  all_goals exact ⟨by rfl, by rfl, by rfl, by rfl, by rfl⟩
theorem rowS_in (k : Nat) : rowS k = 28 ∨ rowS k = 12 ∨ rowS k = 14 ∨ rowS k = 30 ∨ rowS k = 0 := by
  by_cases hk : k < 17
  · have : k = 0 ∨ k = 1 ∨ k = 2 ∨ k = 3 ∨ k = 4 ∨ k = 5 ∨ k = 6 ∨ k = 7 ∨ k = 8 ∨ k = 9 ∨ k = 10 ∨ k = 11 ∨ k = 12 ∨ k = 13 ∨ k = 14 ∨ k = 15 ∨ k = 16 := by omega
    rcases this with rfl | rfl | rfl | rfl | rfl | rfl | rfl | rfl | rfl | rfl | rfl | rfl | rfl | rfl | rfl | rfl | rfl
    all_goals decide
  · right; right; right; right
    unfold rowS
    rw [List.getD_eq_getElem?_getD, List.getElem?_eq_none (by simp; omega)]; rfl
theorem at_build {P : Program} {ops : Array Oper} {rest : List Oper} {a : Act} {w : World} {Q : Exit → Act → World → Prop} {pos : String} {after : Array Edge} {dst : Option Tmp} {ty ty' : TypeId} {x : Array (Nat × Operand)} {g : Option (Nat × Bool)}
    (h : wpList P ops Q ({ dst := dst, op := .build ty x, type := ty', pos := pos, after := after, guard := g } :: rest) a w) : wpList P ops Q ({ dst := dst, op := .build ty x, type := ty', pos := pos, after := after, guard := g } :: rest) a w := h
theorem at_store {P : Program} {ops : Array Oper} {rest : List Oper} {a : Act} {w : World} {Q : Exit → Act → World → Prop} {pos : String} {after : Array Edge} {dst : Option Tmp} {ty ty' : TypeId} {x y : Operand} {g : Option (Nat × Bool)}
    (h : wpList P ops Q ({ dst := dst, op := .store ty x y, type := ty', pos := pos, after := after, guard := g } :: rest) a w) : wpList P ops Q ({ dst := dst, op := .store ty x y, type := ty', pos := pos, after := after, guard := g } :: rest) a w := h
theorem two_at (w : World) (o1 o2 : Obj) : ((w.alloc o1).alloc o2).heap[w.heap.size + 1]? = some o2 := by
  rw [show w.heap.size + 1 = (w.alloc o1).heap.size from by simp, heap_alloc_new]
theorem two_set (w : World) (o1 : Obj) (c c' : Array Value) (t : TypeId) : ((w.alloc o1).alloc (.cells c t)).setRow (w.heap.size + 1) c' = (w.alloc o1).alloc (.cells c' t) := by
  rw [show w.heap.size + 1 = (w.alloc o1).heap.size from by simp, World.setRow_alloc_new]
/-- a row that is none -/
def noRow : Array Value := #[.int .u8 0, .bool false, .bool false, .nilFunc, .nilFunc]
theorem size121 : (Tryd.prog.info? 121).map (·.size) = some 5 := by kernel_rfl
theorem func_one (k : Nat) : (Value.func (.func k) #[] #[]).oneCell' = true := rfl
theorem row_one (k : Nat) : (rowV k).all (·.oneCell') = true := by
  have h1 : (rowTwo k).oneCell' = true := by unfold rowTwo; split <;> rfl
  have h2 : (rowOne k).oneCell' = true := by unfold rowOne; split <;> rfl
  show (#[Value.int .u8 (rowS k), .bool (rowCmp k), .bool (rowDiv k), rowTwo k, rowOne k] : Array Value).all (·.oneCell') = true
  generalize rowTwo k = x at *
  generalize rowOne k = y at *
  rw [← Array.all_toList]
  show ((Value.int .u8 (rowS k)).oneCell' && ((Value.bool (rowCmp k)).oneCell' && ((Value.bool (rowDiv k)).oneCell' && (x.oneCell' && (y.oneCell' && true))))) = true
  rw [h1, h2]; rfl
theorem noRow_one : noRow.all (·.oneCell') = true := by kernel_rfl
theorem one_at (w : World) (o1 o2 : Obj) : ((w.alloc o1).alloc o2).heap[w.heap.size]? = some o1 := by
  rw [heap_alloc_old _ _ (by simp), heap_alloc_new]
theorem below2 (w : World) (o1 o2 : Obj) : Below w.heap.size w ((w.alloc o1).alloc o2) := ((Below.refl _ _).alloc (Nat.le_refl _) _).alloc (by simp) _
theorem heap_setRow_same (w : World) (g : Nat) (old cs : Array Value) (t : TypeId) (hg : w.heap[g]? = some (.cells old t (0, 0))) : (w.setRow g cs).heap[g]? = some (.cells cs t (0, 0)) := by
  simp [World.setRow, Array.getElem?_modify, hg]
theorem below_setRow' {w0 w : World} {B g : Nat} (hb : Below B w0 w) (cs : Array Value) (h : B ≤ g) : Below B w0 (w.setRow g cs) :=
  hb.trans ⟨rfl, rfl, rfl, by simp, fun k hk => by simp only [World.setRow, Array.getElem?_modify]; rw [if_neg (by omega)]⟩
theorem results_row_tmp {P : Program} {fn : Func} {p u : Tmp} {ty : TypeId} (h : fn.results = #[.cell p ty, .tmp u]) (tmps : Array Value) (w : World) (g : Nat) (t : TypeId) (cs : Array Value) (fr : Nat × Nat) (d : TypeDesc) (v : Value)
    (hp : tmps.getD p undef = .pointer (some ⟨g, 0, none⟩)) (hv : tmps.getD u undef = v) (hg : w.heap[g]? = some (.cells cs t fr))
    (hu : P.underlying ty = some d) (hd : (match d with | .struct _ | .array _ _ => true | _ => false) = true) (hi : (P.info? ty).map (·.size) = some cs.size) :
    (results fn tmps).run P w = .ok (.tuple #[.agg cs, v]) w := by
  have hp' : tmps[p]?.getD undef = .pointer (some ⟨g, 0, none⟩) := by simpa using hp
  have hv' : tmps[u]?.getD undef = v := by simpa using hv
  simp [results, h, hp', hv', asAddr, run_loadVar_row w g t ty cs fr d hg hu hd hi]
theorem mkW_cell (w : World) (j : Nat) (v : Value) (h : rowsC[j]? = some v) : ((w.alloc (.cells #[.int .u8 0, .bool false, .bool false, .nilFunc, .nilFunc] 121)).alloc (.cells rowsC 127)).cell? ⟨w.heap.size + 1, j, none⟩ = some v :=
  (cell_of_row _ _ j rowsC 127 (0, 0) (two_at w _ _)).trans h
set_option maxRecDepth 100000 in
set_option maxHeartbeats 1600000 in
theorem find_out (op t : Int) (w : World) (ho : op < 0 ∨ 17 ≤ op) : Calls Tryd.prog 82 #[.int .i64 op, .int .i64 t] w fun e w' => e = .returned (.tuple #[.agg noRow, .bool false]) ∧ Below w.heap.size w w' := by
  have hz := zero57
  have h0 := size127
  have h1 := zero_size
  have h2 := rows_one
  have hR := hide (heap_setRow_same _ w.heap.size noRow (noRow) 121 (one_at w (.cells noRow 121) (.cells rowsC 127)))
  have hB := hide (below_setRow' (below2 w (.cells noRow 121) (.cells rowsC 127)) (noRow) (Nat.le_refl w.heap.size))
  rcases ho with ho | ho
  · go_enter Tryd.func82, Tryd.ntmps82
    go_wp2_with (first | ((with_reducible refine at_build (dst := some 23) ?_); go_must (refine wpList_buildTo rfl 127 _ rfl (some 23) rfl rowsC (by kernel_rfl) ?_)) | ((with_reducible refine at_store (ty := 127) ?_); go_must (refine wpList_store_rowTo rfl 127 _ _ rfl rfl _ rowsC rfl rfl 127 zeroC (two_at w _ _) h0 h1 h2 ?_; rw [two_set])) | ((with_reducible refine at_store (ty := 121) ?_); go_must (refine wpList_store_rowTo rfl 121 _ _ rfl rfl w.heap.size (noRow) rfl rfl 121 noRow (one_at w _ _) size121 rfl noRow_one ?_)))
    refine bodyPost_ret (v := .tuple #[.agg (noRow), .bool false]) ?_ rfl ⟨rfl, hB.out⟩
    exact results_row_tmp Tryd.results82 _ _ w.heap.size 121 (noRow) (0, 0) _ _ rfl rfl hR.out Tryd.underlying121 rfl size121
  · have i0 : ¬ op < 0 := by omega
    go_enter Tryd.func82, Tryd.ntmps82
    go_wp2_with (first | ((with_reducible refine at_build (dst := some 23) ?_); go_must (refine wpList_buildTo rfl 127 _ rfl (some 23) rfl rowsC (by kernel_rfl) ?_)) | ((with_reducible refine at_store (ty := 127) ?_); go_must (refine wpList_store_rowTo rfl 127 _ _ rfl rfl _ rowsC rfl rfl 127 zeroC (two_at w _ _) h0 h1 h2 ?_; rw [two_set])) | ((with_reducible refine at_store (ty := 121) ?_); go_must (refine wpList_store_rowTo rfl 121 _ _ rfl rfl w.heap.size (noRow) rfl rfl 121 noRow (one_at w _ _) size121 rfl noRow_one ?_)))
    refine bodyPost_ret (v := .tuple #[.agg (noRow), .bool false]) ?_ rfl ⟨rfl, hB.out⟩
    exact results_row_tmp Tryd.results82 _ _ w.heap.size 121 (noRow) (0, 0) _ _ rfl rfl hR.out Tryd.underlying121 rfl size121
set_option maxRecDepth 100000 in
set_option maxHeartbeats 1600000 in
theorem find_in (t : Int) (w : World) (k : Nat) (hk : k < 17) : Calls Tryd.prog 82 #[.int .i64 (k : Int), .int .i64 t] w fun e w' => e = .returned (.tuple #[.agg (if bitT (rowS k) t then rowV k else noRow), .bool (bitT (rowS k) t)]) ∧ Below w.heap.size w w' := by
  have c := has_any (rowS k) t (rowS_in k)
  have hz := zero57
  have h0 := size127
  have h1 := zero_size
  have h2 := rows_one
  have h3 := row_one k
  have i0 : (0 : Int) ≤ (k : Int) := by omega
  have i1 : (k : Int) < 17 := by omega
  obtain ⟨r0, r1, r2, r3, r4⟩ := rows_at k hk
  have q0 := mkW_cell w _ _ r0
  have q1 := mkW_cell w _ _ r1
  have q2 := mkW_cell w _ _ r2
  have q3 := mkW_cell w _ _ r3
  have q4 := mkW_cell w _ _ r4
  clear r0 r1 r2 r3 r4 hk
  cases hb : bitT (rowS k) t with
  | false =>
    rw [hb] at c
    clear hb
    have hR := hide (heap_setRow_same _ w.heap.size noRow (noRow) 121 (one_at w (.cells noRow 121) (.cells rowsC 127)))
    have hB := hide (below_setRow' (below2 w (.cells noRow 121) (.cells rowsC 127)) (noRow) (Nat.le_refl w.heap.size))
    go_enter Tryd.func82, Tryd.ntmps82
    go_wp2_with (first | ((with_reducible refine at_build (dst := some 23) ?_); go_must (refine wpList_buildTo rfl 127 _ rfl (some 23) rfl rowsC (by kernel_rfl) ?_)) | ((with_reducible refine at_store (ty := 127) ?_); go_must (refine wpList_store_rowTo rfl 127 _ _ rfl rfl _ rowsC rfl rfl 127 zeroC (two_at w _ _) h0 h1 h2 ?_; rw [two_set])))
    refine (c _).mono ?_
    rintro e w1 ⟨rfl, rfl⟩
    go_wp2_with (((with_reducible refine at_store (ty := 121) ?_); go_must (refine wpList_store_rowTo rfl 121 _ _ rfl rfl w.heap.size (noRow) rfl rfl 121 noRow (one_at w _ _) size121 rfl noRow_one ?_)))
    refine bodyPost_ret (v := .tuple #[.agg (noRow), .bool false]) ?_ rfl ⟨rfl, hB.out⟩
    exact results_row_tmp Tryd.results82 _ _ w.heap.size 121 (noRow) (0, 0) _ _ rfl rfl hR.out Tryd.underlying121 rfl size121
  | true =>
    rw [hb] at c
    clear hb
    have hR := hide (heap_setRow_same _ w.heap.size noRow (rowV k) 121 (one_at w (.cells noRow 121) (.cells rowsC 127)))
    have hB := hide (below_setRow' (below2 w (.cells noRow 121) (.cells rowsC 127)) (rowV k) (Nat.le_refl w.heap.size))
    go_enter Tryd.func82, Tryd.ntmps82
    go_wp2_with (first | ((with_reducible refine at_build (dst := some 23) ?_); go_must (refine wpList_buildTo rfl 127 _ rfl (some 23) rfl rowsC (by kernel_rfl) ?_)) | ((with_reducible refine at_store (ty := 127) ?_); go_must (refine wpList_store_rowTo rfl 127 _ _ rfl rfl _ rowsC rfl rfl 127 zeroC (two_at w _ _) h0 h1 h2 ?_; rw [two_set])))
    refine (c _).mono ?_
    rintro e w1 ⟨rfl, rfl⟩
    go_wp2_with (((with_reducible refine at_store (ty := 121) ?_); go_must (refine wpList_store_rowTo rfl 121 _ _ rfl rfl w.heap.size (rowV k) rfl rfl 121 noRow (one_at w _ _) size121 rfl (h3) ?_)))
    refine bodyPost_ret (v := .tuple #[.agg (rowV k), .bool true]) ?_ rfl ⟨rfl, hB.out⟩
    exact results_row_tmp Tryd.results82 _ _ w.heap.size 121 (rowV k) (0, 0) _ _ rfl rfl hR.out Tryd.underlying121 rfl size121
end Go.Proofs.YtlckedionmgjjaaDoor.Four
namespace Go.Proofs.YtlckedionmgjjaaDoor.Four
open Go.RowKit
/-- a value of at most 32 bits -/
def R (a : Int) : Prop := -2147483648 ≤ a ∧ a ≤ 2147483647
theorem R_of_fit {t a : Int} (h : fitB t a = true) : R a := by
  by_cases h1 : t = 1
  · subst h1
    rcases fit_one h with rfl | rfl <;> exact ⟨by decide, by decide⟩
  · obtain ⟨_, h2, h3⟩ := fit_range h1 h
    rcases sz_pos t with e | e <;> rw [e] at h2 h3 <;> exact ⟨by omega, by omega⟩
theorem w_add {a b : Int} (ha : R a) (hb : R b) : wrap64 (a + b) = a + b := by obtain ⟨_, _⟩ := ha; obtain ⟨_, _⟩ := hb; exact w64 (by omega) (by omega)
theorem w_sub {a b : Int} (ha : R a) (hb : R b) : wrap64 (a - b) = a - b := by obtain ⟨_, _⟩ := ha; obtain ⟨_, _⟩ := hb; exact w64 (by omega) (by omega)
theorem w_neg {a : Int} (ha : R a) : wrap64 (-a) = -a := by obtain ⟨_, _⟩ := ha; exact w64 (by omega) (by omega)
theorem w_mul {a b : Int} (ha : R a) (hb : R b) : wrap64 (a * b) = a * b := by
  obtain ⟨a1, a2⟩ := ha
  obtain ⟨b1, b2⟩ := hb
  have h : (a * b).natAbs ≤ 2147483648 * 2147483648 := by
    rw [Int.natAbs_mul]
    exact Nat.mul_le_mul (by omega) (by omega)
  exact w64 (by omega) (by omega)
theorem w_div {a b : Int} (ha : R a) : wrap64 (a.tdiv b) = a.tdiv b := by
  obtain ⟨a1, a2⟩ := ha
  have h : (a.tdiv b).natAbs ≤ 2147483648 := by
    rw [Int.natAbs_tdiv]
    exact Nat.le_trans (Nat.div_le_self _ _) (by omega)
  exact w64 (by omega) (by omega)
theorem w_not {a : Int} (ha : R a) : bits .xor .i64 (-1) a = -1 - a := by
  show IntKind.i64.wrap ((BitVec.ofInt 64 (-1) ^^^ BitVec.ofInt 64 a).toNat : Int) = _
  rw [show BitVec.ofInt 64 (-1) = BitVec.allOnes 64 from rfl, BitVec.allOnes_xor, BitVec.toNat_not, ofInt_mod]
  obtain ⟨_, _⟩ := ha
  simp [IntKind.wrap, IntKind.bits, IntKind.signed]
  omega
theorem ne_dec (a b : Int) : (a != b) = decide (a ≠ b) := by
  rw [Bool.eq_iff_iff]; simp
set_option maxRecDepth 100000 in
theorem add_any (a b : Int) (ha : R a) (hb : R b) (w : World) : Calls Tryd.prog 85 #[.int .i64 a, .int .i64 b] w fun e w' => e = .returned (.int .i64 (pureN 1 a b)) ∧ w' = w := by
  have E := hide (w_add ha hb)
  clear ha hb
  go_enter Tryd.func85, Tryd.ntmps85
  go_wp2
  go_ret
  exact ⟨ret_int (by first | rfl | exact E.out), rfl⟩
set_option maxRecDepth 100000 in
theorem sub_any (a b : Int) (ha : R a) (hb : R b) (w : World) : Calls Tryd.prog 86 #[.int .i64 a, .int .i64 b] w fun e w' => e = .returned (.int .i64 (pureN 2 a b)) ∧ w' = w := by
  have E := hide (w_sub ha hb)
  clear ha hb
  go_enter Tryd.func86, Tryd.ntmps86
  go_wp2
  go_ret
  exact ⟨ret_int (by first | rfl | exact E.out), rfl⟩
set_option maxRecDepth 100000 in
theorem mul_any (a b : Int) (ha : R a) (hb : R b) (w : World) : Calls Tryd.prog 87 #[.int .i64 a, .int .i64 b] w fun e w' => e = .returned (.int .i64 (pureN 3 a b)) ∧ w' = w := by
  have E := hide (w_mul ha hb)
  clear ha hb
  go_enter Tryd.func87, Tryd.ntmps87
  go_wp2
  go_ret
  exact ⟨ret_int (by first | rfl | exact E.out), rfl⟩
set_option maxRecDepth 100000 in
theorem div_any (a b : Int) (ha : R a) (h0 : b ≠ 0) (w : World) : Calls Tryd.prog 88 #[.int .i64 a, .int .i64 b] w fun e w' => e = .returned (.int .i64 (pureN 4 a b)) ∧ w' = w := by
  have E := hide (w_div (b := b) ha)
  clear ha
  go_enter Tryd.func88, Tryd.ntmps88
  go_wp2
  go_ret
  exact ⟨ret_int (by first | rfl | exact E.out), rfl⟩
set_option maxRecDepth 100000 in
theorem mod_any (a b : Int) (h0 : b ≠ 0) (w : World) : Calls Tryd.prog 89 #[.int .i64 a, .int .i64 b] w fun e w' => e = .returned (.int .i64 (pureN 5 a b)) ∧ w' = w := by
  go_enter Tryd.func89, Tryd.ntmps89
  go_wp2
  go_ret
  exact ⟨rfl, rfl⟩
set_option maxRecDepth 100000 in
theorem and_any (a b : Int)  (w : World) : Calls Tryd.prog 90 #[.int .i64 a, .int .i64 b] w fun e w' => e = .returned (.int .i64 (pureN 6 a b)) ∧ w' = w := by
  go_enter Tryd.func90, Tryd.ntmps90
  go_wp2
  go_ret
  exact ⟨rfl, rfl⟩
set_option maxRecDepth 100000 in
theorem or_any (a b : Int)  (w : World) : Calls Tryd.prog 91 #[.int .i64 a, .int .i64 b] w fun e w' => e = .returned (.int .i64 (pureN 7 a b)) ∧ w' = w := by
  go_enter Tryd.func91, Tryd.ntmps91
  go_wp2
  go_ret
  exact ⟨rfl, rfl⟩
set_option maxRecDepth 100000 in
theorem xor_any (a b : Int)  (w : World) : Calls Tryd.prog 92 #[.int .i64 a, .int .i64 b] w fun e w' => e = .returned (.int .i64 (pureN 8 a b)) ∧ w' = w := by
  go_enter Tryd.func92, Tryd.ntmps92
  go_wp2
  go_ret
  exact ⟨rfl, rfl⟩
set_option maxRecDepth 100000 in
theorem eq_any (a b : Int)  (w : World) : Calls Tryd.prog 93 #[.int .i64 a, .int .i64 b] w fun e w' => e = .returned (.int .i64 (pureN 9 a b)) ∧ w' = w := by
  have c := truth_any
  go_enter Tryd.func93, Tryd.ntmps93
  go_wp2_with fail
  refine (c _ _).mono ?_
  rintro e w1 ⟨rfl, rfl⟩
  go_wp2
  go_ret
  exact ⟨ret_int (by rfl), rfl⟩
set_option maxRecDepth 100000 in
theorem ne_any (a b : Int)  (w : World) : Calls Tryd.prog 95 #[.int .i64 a, .int .i64 b] w fun e w' => e = .returned (.int .i64 (pureN 10 a b)) ∧ w' = w := by
  have c := truth_any
  go_enter Tryd.func95, Tryd.ntmps95
  go_wp2_with fail
  refine (c _ _).mono ?_
  rintro e w1 ⟨rfl, rfl⟩
  go_wp2
  go_ret
  exact ⟨ret_int (by rw [ne_dec]; rfl), rfl⟩
set_option maxRecDepth 100000 in
theorem lt_any (a b : Int)  (w : World) : Calls Tryd.prog 96 #[.int .i64 a, .int .i64 b] w fun e w' => e = .returned (.int .i64 (pureN 11 a b)) ∧ w' = w := by
  have c := truth_any
  go_enter Tryd.func96, Tryd.ntmps96
  go_wp2_with fail
  refine (c _ _).mono ?_
  rintro e w1 ⟨rfl, rfl⟩
  go_wp2
  go_ret
  exact ⟨ret_int (by rfl), rfl⟩
set_option maxRecDepth 100000 in
theorem le_any (a b : Int)  (w : World) : Calls Tryd.prog 97 #[.int .i64 a, .int .i64 b] w fun e w' => e = .returned (.int .i64 (pureN 12 a b)) ∧ w' = w := by
  have c := truth_any
  go_enter Tryd.func97, Tryd.ntmps97
  go_wp2_with fail
  refine (c _ _).mono ?_
  rintro e w1 ⟨rfl, rfl⟩
  go_wp2
  go_ret
  exact ⟨ret_int (by rfl), rfl⟩
set_option maxRecDepth 100000 in
theorem gt_any (a b : Int)  (w : World) : Calls Tryd.prog 98 #[.int .i64 a, .int .i64 b] w fun e w' => e = .returned (.int .i64 (pureN 13 a b)) ∧ w' = w := by
  have c := truth_any
  go_enter Tryd.func98, Tryd.ntmps98
  go_wp2_with fail
  refine (c _ _).mono ?_
  rintro e w1 ⟨rfl, rfl⟩
  go_wp2
  go_ret
  exact ⟨ret_int (by rfl), rfl⟩
set_option maxRecDepth 100000 in
theorem ge_any (a b : Int)  (w : World) : Calls Tryd.prog 99 #[.int .i64 a, .int .i64 b] w fun e w' => e = .returned (.int .i64 (pureN 14 a b)) ∧ w' = w := by
  have c := truth_any
  go_enter Tryd.func99, Tryd.ntmps99
  go_wp2_with fail
  refine (c _ _).mono ?_
  rintro e w1 ⟨rfl, rfl⟩
  go_wp2
  go_ret
  exact ⟨ret_int (by rfl), rfl⟩
set_option maxRecDepth 100000 in
theorem neg_any (a : Int) (ha : R a) (w : World) : Calls Tryd.prog 100 #[.int .i64 a] w fun e w' => e = .returned (.int .i64 (-a)) ∧ w' = w := by
  have E := hide (w_neg ha)
  clear ha
  go_enter Tryd.func100, Tryd.ntmps100
  go_wp2
  go_ret
  exact ⟨ret_int E.out, rfl⟩
set_option maxRecDepth 100000 in
theorem not_any (a : Int) (ha : R a) (w : World) : Calls Tryd.prog 101 #[.int .i64 a] w fun e w' => e = .returned (.int .i64 (-1 - a)) ∧ w' = w := by
  have E := hide (w_not ha)
  clear ha
  go_enter Tryd.func101, Tryd.ntmps101
  go_wp2
  go_ret
  exact ⟨ret_int E.out, rfl⟩
end Go.Proofs.YtlckedionmgjjaaDoor.Four
