/- N4RefW | N4FindW | N4OpsW -/
import Derived.Test.YtldjiieckddhkaaGreatDoorMg8
import Derived.Deep.WholeRow
import Derived.Deep.DeepMust
import Derived.Great.BuildSlice
namespace Go.Proofs.YtldjiieckddhkaaGreatDoor.Four
open Go.RowKit
set_option maxRecDepth 100000 in
theorem fitsR_any (t n : Int) (w : World) : Calls Tryz.prog 89 #[.int .i64 t, .int .i64 n] w fun e w' => e = .returned (.bool (fitB t n)) ∧ w' = w := by
  by_cases h1 : t = 1
  · subst h1
    have E := hide (show fitB 1 n = (decide (n = 0) || decide (n = 1)) by unfold fitB; rw [if_pos rfl])
    go_enter Tryz.func89, Tryz.ntmps89
    go_wp2
    all_goals
      go_ret
      refine ⟨ret_bool ?_, rfl⟩
      rw [E.out]
      clear E
      rw [Bool.eq_iff_iff]
      simp [*]
  · have E := hide (show fitB t n = (tyB t && (decide (-(szN t / 2) ≤ n) && decide (n < szN t / 2))) by unfold fitB; rw [if_neg h1])
    have c := type_any t
    have d := size_any t
    have hs := sz_pos t
    generalize szN t = m at *
    cases hT : tyB t with
    | false =>
      rw [hT] at c E
      clear hT d hs
      go_enter Tryz.func89, Tryz.ntmps89
      go_wp2_with fail
      refine (c _).mono ?_
      rintro e w1 ⟨rfl, rfl⟩
      go_wp2
      go_ret
      exact ⟨ret_bool (by rw [E.out]; rfl), rfl⟩
    | true =>
      rw [hT, Bool.true_and] at E
      rw [hT] at c
      clear hT
      rcases hs with rfl | rfl
      all_goals
        go_enter Tryz.func89, Tryz.ntmps89
        go_wp2_with fail
        refine (c _).mono ?_
        rintro e w1 ⟨rfl, rfl⟩
        go_wp2_with fail
        refine (d _).mono ?_
        rintro e w1 ⟨rfl, rfl⟩
        go_wp2_with fail
        · refine (d _).mono ?_
          rintro e w1 ⟨rfl, rfl⟩
          go_wp2
          all_goals
            go_ret
            refine ⟨ret_bool ?_, rfl⟩
            rw [E.out]
            simp
            omega
        all_goals
          go_ret
          refine ⟨ret_bool ?_, rfl⟩
          rw [E.out]
          simp
          omega
def bitT (s t : Int) : Bool := tyB t && (s / 2 ^ t.toNat % 2 == 1)
set_option maxRecDepth 100000 in
theorem has_any (s t : Int) (hs : s = 28 ∨ s = 12 ∨ s = 14 ∨ s = 30 ∨ s = 0) (w : World) : Calls Tryz.prog 75 #[.int .u8 s, .int .i64 t] w fun e w' => e = .returned (.bool (bitT s t)) ∧ w' = w := by
  have c := isType_any t
  cases hT : tyB t with
  | false =>
    have E := hide (show bitT s t = false by unfold bitT; rw [hT]; rfl)
    rw [hT] at c
    clear hT
    go_enter Tryz.func75, Tryz.ntmps75
    go_wp2_with fail
    refine (c _).mono ?_
    rintro e w1 ⟨rfl, rfl⟩
    go_wp2
    go_ret
    exact ⟨ret_bool (by rw [E.out]), rfl⟩
  | true =>
    have ht : t = 1 ∨ t = 2 ∨ t = 3 ∨ t = 4 := by
      unfold tyB at hT
      rw [Bool.and_eq_true] at hT
      have h1 := of_decide_eq_true hT.1
      have h2 := of_decide_eq_true hT.2
      omega
    rw [hT] at c
    clear hT
    rcases ht with rfl | rfl | rfl | rfl <;> rcases hs with rfl | rfl | rfl | rfl | rfl
    all_goals
      go_enter Tryz.func75, Tryz.ntmps75
      go_wp2_with fail
      refine (c _).mono ?_
      rintro e w1 ⟨rfl, rfl⟩
      go_wp2
      go_ret
      exact ⟨ret_bool (by decide +kernel), rfl⟩
end Go.Proofs.YtldjiieckddhkaaGreatDoor.Four
namespace Go.Proofs.YtldjiieckddhkaaGreatDoor.Four
open Go.RowKit
def rowS (k : Nat) : Int := ([0, 28, 28, 12, 12, 12, 14, 14, 14, 30, 30, 28, 28, 28, 28, 28, 14] : List Int).getD k 0
def rowCmp (k : Nat) : Bool := Nat.ble 9 k && Nat.ble k 14
def rowDiv (k : Nat) : Bool := Nat.beq k 4 || Nat.beq k 5
def fnNo (k : Nat) : Nat := ([0, 58, 59, 60, 61, 62, 63, 64, 65, 66, 68, 69, 70, 71, 72, 73, 74] : List Nat).getD k 0
def rowTwo (k : Nat) : Value := if Nat.ble 1 k && Nat.ble k 14 then .func (.func (fnNo k)) #[] #[] else .nilFunc
def rowOne (k : Nat) : Value := if Nat.ble 15 k then .func (.func (fnNo k)) #[] #[] else .nilFunc
def rowV (k : Nat) : Array Value := #[.int .u8 (rowS k), .bool (rowCmp k), .bool (rowDiv k), rowTwo k, rowOne k]
def rowsC : Array Value := ((List.range 17).flatMap fun k => (rowV k).toList).toArray
def zeroC : Array Value := ((List.range 17).flatMap fun _ => [.int .u8 0, .bool false, .bool false, .nilFunc, .nilFunc]).toArray
theorem info57 : (Tryz.prog.info? 98).map (fun i => (i.zero, i.size)) = some (some (.agg zeroC), 85) := by kernel_rfl
theorem zero57 (w : World) : (zeroValue 98).run Tryz.prog w = .ok (.agg zeroC) w := (zero_of_info info57).1 w
theorem size98 : (Tryz.prog.info? 98).map (·.size) = some rowsC.size := (zero_of_info info57).2.trans (by kernel_rfl)
theorem zero_size : zeroC.size = rowsC.size := by kernel_rfl
theorem rows_one : rowsC.all (·.oneCell') = true := by kernel_rfl
theorem rows_at (k : Nat) (hk : k < 17) : rowsC[k * 5]? = some (.int .u8 (rowS k)) ∧ rowsC[k * 5 + 1]? = some (.bool (rowCmp k)) ∧ rowsC[k * 5 + 2]? = some (.bool (rowDiv k)) ∧ rowsC[k * 5 + 3]? = some (rowTwo k) ∧ rowsC[k * 5 + 4]? = some (rowOne k) := by
  have : k = 0 ∨ k = 1 ∨ k = 2 ∨ k = 3 ∨ k = 4 ∨ k = 5 ∨ k = 6 ∨ k = 7 ∨ k = 8 ∨ k = 9 ∨ k = 10 ∨ k = 11 ∨ k = 12 ∨ k = 13 ∨ k = 14 ∨ k = 15 ∨ k = 16 := by omega
  rcases this with rfl | rfl | rfl | rfl | rfl | rfl | rfl | rfl | rfl | rfl | rfl | rfl | rfl | rfl | rfl | rfl | rfl
  all_goals exact ⟨by rfl, by rfl, by rfl, by rfl, by rfl⟩
theorem rowS_in (k : Nat) : rowS k = 28 ∨ rowS k = 12 ∨ rowS k = 14 ∨ rowS k = 30 ∨ rowS k = 0 := by
  by_cases hk : k < 17
  · have : k = 0 ∨ k = 1 ∨ k = 2 ∨ k = 3 ∨ k = 4 ∨ k = 5 ∨ k = 6 ∨ k = 7 ∨ k = 8 ∨ k = 9 ∨ k = 10 ∨ k = 11 ∨ k = 12 ∨ k = 13 ∨ k = 14 ∨ k = 15 ∨ k = 16 := by omega
    rcases this with rfl | rfl | rfl | rfl | rfl | rfl | rfl | rfl | rfl | rfl | rfl | rfl | rfl | rfl | rfl | rfl | rfl
    all_goals decide
  · right; right; right; right
    unfold rowS
    rw [List.getD_eq_getElem?_getD, List.getElem?_eq_none (by simp; omega)]; rfl
theorem at_build {P : Program} {ops : Array Oper} {rest : List Oper} {a : Act} {w : World} {Q : Exit → Act → World → Prop} {pos : String} {after : Array Edge} {dst : Option Tmp} {ty ty' : TypeId} {x : Array (Nat × Operand)} {g : Option (Nat × Bool)}
    (h : wpList P ops Q ({ dst := dst, op := .build ty x, type := ty', pos := pos, after := after, guard := g } :: rest) a w) : wpList P ops Q ({ dst := dst, op := .build ty x, type := ty', pos := pos, after := after, guard := g } :: rest) a w := h
theorem at_store {P : Program} {ops : Array Oper} {rest : List Oper} {a : Act} {w : World} {Q : Exit → Act → World → Prop} {pos : String} {after : Array Edge} {dst : Option Tmp} {ty ty' : TypeId} {x y : Operand} {g : Option (Nat × Bool)}
    (h : wpList P ops Q ({ dst := dst, op := .store ty x y, type := ty', pos := pos, after := after, guard := g } :: rest) a w) : wpList P ops Q ({ dst := dst, op := .store ty x y, type := ty', pos := pos, after := after, guard := g } :: rest) a w := h
theorem two_at (w : World) (o1 o2 : Obj) : ((w.alloc o1).alloc o2).heap[w.heap.size + 1]? = some o2 := by
  rw [show w.heap.size + 1 = (w.alloc o1).heap.size from by simp, heap_alloc_new]
theorem two_set (w : World) (o1 : Obj) (c c' : Array Value) (t : TypeId) : ((w.alloc o1).alloc (.cells c t)).setRow (w.heap.size + 1) c' = (w.alloc o1).alloc (.cells c' t) := by
  rw [show w.heap.size + 1 = (w.alloc o1).heap.size from by simp, World.setRow_alloc_new]
def noRow : Array Value := #[.int .u8 0, .bool false, .bool false, .nilFunc, .nilFunc]
theorem size63 : (Tryz.prog.info? 63).map (·.size) = some 5 := by kernel_rfl
theorem func_one (k : Nat) : (Value.func (.func k) #[] #[]).oneCell' = true := rfl
theorem row_one (k : Nat) : (rowV k).all (·.oneCell') = true := by
  have h1 : (rowTwo k).oneCell' = true := by unfold rowTwo; split <;> rfl
  have h2 : (rowOne k).oneCell' = true := by unfold rowOne; split <;> rfl
  show (#[Value.int .u8 (rowS k), .bool (rowCmp k), .bool (rowDiv k), rowTwo k, rowOne k] : Array Value).all (·.oneCell') = true
  generalize rowTwo k = x at *
  generalize rowOne k = y at *
  rw [← Array.all_toList]
  show ((Value.int .u8 (rowS k)).oneCell' && ((Value.bool (rowCmp k)).oneCell' && ((Value.bool (rowDiv k)).oneCell' && (x.oneCell' && (y.oneCell' && true))))) = true
  rw [h1, h2]; rfl
theorem noRow_one : noRow.all (·.oneCell') = true := by kernel_rfl
theorem one_at (w : World) (o1 o2 : Obj) : ((w.alloc o1).alloc o2).heap[w.heap.size]? = some o1 := by
  rw [heap_alloc_old _ _ (by simp), heap_alloc_new]
theorem below2 (w : World) (o1 o2 : Obj) : Below w.heap.size w ((w.alloc o1).alloc o2) := ((Below.refl _ _).alloc (Nat.le_refl _) _).alloc (by simp) _
theorem heap_setRow_same (w : World) (g : Nat) (old cs : Array Value) (t : TypeId) (hg : w.heap[g]? = some (.cells old t (0, 0))) : (w.setRow g cs).heap[g]? = some (.cells cs t (0, 0)) := by
  simp [World.setRow, Array.getElem?_modify, hg]
theorem below_setRow' {w0 w : World} {B g : Nat} (hb : Below B w0 w) (cs : Array Value) (h : B ≤ g) : Below B w0 (w.setRow g cs) :=
  hb.trans ⟨rfl, rfl, rfl, by simp, fun k hk => by simp only [World.setRow, Array.getElem?_modify]; rw [if_neg (by omega)]⟩
theorem results_row_tmp {P : Program} {fn : Func} {p u : Tmp} {ty : TypeId} (h : fn.results = #[.cell p ty, .tmp u]) (tmps : Array Value) (w : World) (g : Nat) (t : TypeId) (cs : Array Value) (fr : Nat × Nat) (d : TypeDesc) (v : Value)
    (hp : tmps.getD p undef = .pointer (some ⟨g, 0, none⟩)) (hv : tmps.getD u undef = v) (hg : w.heap[g]? = some (.cells cs t fr))
    (hu : P.underlying ty = some d) (hd : (match d with | .struct _ | .array _ _ => true | _ => false) = true) (hi : (P.info? ty).map (·.size) = some cs.size) :
    (results fn tmps).run P w = .ok (.tuple #[.agg cs, v]) w := by
  have hp' : tmps[p]?.getD undef = .pointer (some ⟨g, 0, none⟩) := by simpa using hp
  have hv' : tmps[u]?.getD undef = v := by simpa using hv
  simp [results, h, hp', hv', asAddr, run_loadVar_row w g t ty cs fr d hg hu hd hi]
theorem mkW_cell (w : World) (j : Nat) (v : Value) (h : rowsC[j]? = some v) : ((w.alloc (.cells #[.int .u8 0, .bool false, .bool false, .nilFunc, .nilFunc] 63)).alloc (.cells rowsC 98)).cell? ⟨w.heap.size + 1, j, none⟩ = some v :=
  (cell_of_row _ _ j rowsC 98 (0, 0) (two_at w _ _)).trans h
set_option maxRecDepth 100000 in
set_option maxHeartbeats 1600000 in
theorem find_out (op t : Int) (w : World) (ho : op < 0 ∨ 17 ≤ op) : Calls Tryz.prog 33 #[.int .i64 op, .int .i64 t] w fun e w' => e = .returned (.tuple #[.agg noRow, .bool false]) ∧ Below w.heap.size w w' := by
  have hz := zero57
  have h0 := size98
  have h1 := zero_size
  have h2 := rows_one
  have hR := hide (heap_setRow_same _ w.heap.size noRow (noRow) 63 (one_at w (.cells noRow 63) (.cells rowsC 98)))
  have hB := hide (below_setRow' (below2 w (.cells noRow 63) (.cells rowsC 98)) (noRow) (Nat.le_refl w.heap.size))
  rcases ho with ho | ho
  · go_enter Tryz.func33, Tryz.ntmps33
    go_wp2_with (first | ((with_reducible refine at_build (dst := some 23) ?_); go_must (refine wpList_buildTo rfl 98 _ rfl (some 23) rfl rowsC (by kernel_rfl) ?_)) | ((with_reducible refine at_store (ty := 98) ?_); go_must (refine wpList_store_rowTo rfl 98 _ _ rfl rfl _ rowsC rfl rfl 98 zeroC (two_at w _ _) h0 h1 h2 ?_; rw [two_set])) | ((with_reducible refine at_store (ty := 63) ?_); go_must (refine wpList_store_rowTo rfl 63 _ _ rfl rfl w.heap.size (noRow) rfl rfl 63 noRow (one_at w _ _) size63 rfl noRow_one ?_)))
    refine bodyPost_ret (v := .tuple #[.agg (noRow), .bool false]) ?_ rfl ⟨rfl, hB.out⟩
    exact results_row_tmp Tryz.results33 _ _ w.heap.size 63 (noRow) (0, 0) _ _ rfl rfl hR.out Tryz.underlying63 rfl size63
  · have i0 : ¬ op < 0 := by omega
    go_enter Tryz.func33, Tryz.ntmps33
    go_wp2_with (first | ((with_reducible refine at_build (dst := some 23) ?_); go_must (refine wpList_buildTo rfl 98 _ rfl (some 23) rfl rowsC (by kernel_rfl) ?_)) | ((with_reducible refine at_store (ty := 98) ?_); go_must (refine wpList_store_rowTo rfl 98 _ _ rfl rfl _ rowsC rfl rfl 98 zeroC (two_at w _ _) h0 h1 h2 ?_; rw [two_set])) | ((with_reducible refine at_store (ty := 63) ?_); go_must (refine wpList_store_rowTo rfl 63 _ _ rfl rfl w.heap.size (noRow) rfl rfl 63 noRow (one_at w _ _) size63 rfl noRow_one ?_)))
    refine bodyPost_ret (v := .tuple #[.agg (noRow), .bool false]) ?_ rfl ⟨rfl, hB.out⟩
    exact results_row_tmp Tryz.results33 _ _ w.heap.size 63 (noRow) (0, 0) _ _ rfl rfl hR.out Tryz.underlying63 rfl size63
set_option maxRecDepth 100000 in
set_option maxHeartbeats 1600000 in
theorem find_in (t : Int) (w : World) (k : Nat) (hk : k < 17) : Calls Tryz.prog 33 #[.int .i64 (k : Int), .int .i64 t] w fun e w' => e = .returned (.tuple #[.agg (if bitT (rowS k) t then rowV k else noRow), .bool (bitT (rowS k) t)]) ∧ Below w.heap.size w w' := by
  have c := has_any (rowS k) t (rowS_in k)
  have hz := zero57
  have h0 := size98
  have h1 := zero_size
  have h2 := rows_one
  have h3 := row_one k
  have i0 : (0 : Int) ≤ (k : Int) := by omega
  have i1 : (k : Int) < 17 := by omega
  obtain ⟨r0, r1, r2, r3, r4⟩ := rows_at k hk
  have q0 := mkW_cell w _ _ r0
  have q1 := mkW_cell w _ _ r1
  have q2 := mkW_cell w _ _ r2
  have q3 := mkW_cell w _ _ r3
  have q4 := mkW_cell w _ _ r4
  clear r0 r1 r2 r3 r4 hk
  cases hb : bitT (rowS k) t with
  | false =>
    rw [hb] at c
    clear hb
    have hR := hide (heap_setRow_same _ w.heap.size noRow (noRow) 63 (one_at w (.cells noRow 63) (.cells rowsC 98)))
    have hB := hide (below_setRow' (below2 w (.cells noRow 63) (.cells rowsC 98)) (noRow) (Nat.le_refl w.heap.size))
    go_enter Tryz.func33, Tryz.ntmps33
    go_wp2_with (first | ((with_reducible refine at_build (dst := some 23) ?_); go_must (refine wpList_buildTo rfl 98 _ rfl (some 23) rfl rowsC (by kernel_rfl) ?_)) | ((with_reducible refine at_store (ty := 98) ?_); go_must (refine wpList_store_rowTo rfl 98 _ _ rfl rfl _ rowsC rfl rfl 98 zeroC (two_at w _ _) h0 h1 h2 ?_; rw [two_set])))
    refine (c _).mono ?_
    rintro e w1 ⟨rfl, rfl⟩
    go_wp2_with (((with_reducible refine at_store (ty := 63) ?_); go_must (refine wpList_store_rowTo rfl 63 _ _ rfl rfl w.heap.size (noRow) rfl rfl 63 noRow (one_at w _ _) size63 rfl noRow_one ?_)))
    refine bodyPost_ret (v := .tuple #[.agg (noRow), .bool false]) ?_ rfl ⟨rfl, hB.out⟩
    exact results_row_tmp Tryz.results33 _ _ w.heap.size 63 (noRow) (0, 0) _ _ rfl rfl hR.out Tryz.underlying63 rfl size63
  | true =>
    rw [hb] at c
    clear hb
    have hR := hide (heap_setRow_same _ w.heap.size noRow (rowV k) 63 (one_at w (.cells noRow 63) (.cells rowsC 98)))
    have hB := hide (below_setRow' (below2 w (.cells noRow 63) (.cells rowsC 98)) (rowV k) (Nat.le_refl w.heap.size))
    go_enter Tryz.func33, Tryz.ntmps33
    go_wp2_with (first | ((with_reducible refine at_build (dst := some 23) ?_); go_must (refine wpList_buildTo rfl 98 _ rfl (some 23) rfl rowsC (by kernel_rfl) ?_)) | ((with_reducible refine at_store (ty := 98) ?_); go_must (refine wpList_store_rowTo rfl 98 _ _ rfl rfl _ rowsC rfl rfl 98 zeroC (two_at w _ _) h0 h1 h2 ?_; rw [two_set])))
    refine (c _).mono ?_
    rintro e w1 ⟨rfl, rfl⟩
    go_wp2_with (((with_reducible refine at_store (ty := 63) ?_); go_must (refine wpList_store_rowTo rfl 63 _ _ rfl rfl w.heap.size (rowV k) rfl rfl 63 noRow (one_at w _ _) size63 rfl (h3) ?_)))
    refine bodyPost_ret (v := .tuple #[.agg (rowV k), .bool true]) ?_ rfl ⟨rfl, hB.out⟩
    exact results_row_tmp Tryz.results33 _ _ w.heap.size 63 (rowV k) (0, 0) _ _ rfl rfl hR.out Tryz.underlying63 rfl size63
end Go.Proofs.YtldjiieckddhkaaGreatDoor.Four
namespace Go.Proofs.YtldjiieckddhkaaGreatDoor.Four
open Go.RowKit
def R (a : Int) : Prop := -2147483648 ≤ a ∧ a ≤ 2147483647
theorem R_of_fit {t a : Int} (h : fitB t a = true) : R a := by
  by_cases h1 : t = 1
  · subst h1
    rcases fit_one h with rfl | rfl <;> exact ⟨by decide, by decide⟩
  · obtain ⟨_, h2, h3⟩ := fit_range h1 h
    rcases sz_pos t with e | e <;> rw [e] at h2 h3 <;> exact ⟨by omega, by omega⟩
theorem w_add {a b : Int} (ha : R a) (hb : R b) : wrap64 (a + b) = a + b := by obtain ⟨_, _⟩ := ha; obtain ⟨_, _⟩ := hb; exact w64 (by omega) (by omega)
theorem w_sub {a b : Int} (ha : R a) (hb : R b) : wrap64 (a - b) = a - b := by obtain ⟨_, _⟩ := ha; obtain ⟨_, _⟩ := hb; exact w64 (by omega) (by omega)
theorem w_neg {a : Int} (ha : R a) : wrap64 (-a) = -a := by obtain ⟨_, _⟩ := ha; exact w64 (by omega) (by omega)
theorem w_mul {a b : Int} (ha : R a) (hb : R b) : wrap64 (a * b) = a * b := by
  obtain ⟨a1, a2⟩ := ha
  obtain ⟨b1, b2⟩ := hb
  have h : (a * b).natAbs ≤ 2147483648 * 2147483648 := by
    rw [Int.natAbs_mul]
    exact Nat.mul_le_mul (by omega) (by omega)
  exact w64 (by omega) (by omega)
theorem w_div {a b : Int} (ha : R a) : wrap64 (a.tdiv b) = a.tdiv b := by
  obtain ⟨a1, a2⟩ := ha
  have h : (a.tdiv b).natAbs ≤ 2147483648 := by
    rw [Int.natAbs_tdiv]
    exact Nat.le_trans (Nat.div_le_self _ _) (by omega)
  exact w64 (by omega) (by omega)
theorem w_not {a : Int} (ha : R a) : bits .xor .i64 (-1) a = -1 - a := by
  show IntKind.i64.wrap ((BitVec.ofInt 64 (-1) ^^^ BitVec.ofInt 64 a).toNat : Int) = _
  rw [show BitVec.ofInt 64 (-1) = BitVec.allOnes 64 from rfl, BitVec.allOnes_xor, BitVec.toNat_not, ofInt_mod]
  obtain ⟨_, _⟩ := ha
  simp [IntKind.wrap, IntKind.bits, IntKind.signed]
  omega
theorem ne_dec (a b : Int) : (a != b) = decide (a ≠ b) := by
  rw [Bool.eq_iff_iff]; simp
set_option maxRecDepth 100000 in
theorem add_any (a b : Int) (ha : R a) (hb : R b) (w : World) : Calls Tryz.prog 58 #[.int .i64 a, .int .i64 b] w fun e w' => e = .returned (.int .i64 (pureN 1 a b)) ∧ w' = w := by
  have E := hide (w_add ha hb)
  clear ha hb
  go_enter Tryz.func58, Tryz.ntmps58
  go_wp2
  go_ret
  exact ⟨ret_int (by first | rfl | exact E.out), rfl⟩
set_option maxRecDepth 100000 in
theorem sub_any (a b : Int) (ha : R a) (hb : R b) (w : World) : Calls Tryz.prog 59 #[.int .i64 a, .int .i64 b] w fun e w' => e = .returned (.int .i64 (pureN 2 a b)) ∧ w' = w := by
  have E := hide (w_sub ha hb)
  clear ha hb
  go_enter Tryz.func59, Tryz.ntmps59
  go_wp2
  go_ret
  exact ⟨ret_int (by first | rfl | exact E.out), rfl⟩
set_option maxRecDepth 100000 in
theorem mul_any (a b : Int) (ha : R a) (hb : R b) (w : World) : Calls Tryz.prog 60 #[.int .i64 a, .int .i64 b] w fun e w' => e = .returned (.int .i64 (pureN 3 a b)) ∧ w' = w := by
  have E := hide (w_mul ha hb)
  clear ha hb
  go_enter Tryz.func60, Tryz.ntmps60
  go_wp2
  go_ret
  exact ⟨ret_int (by first | rfl | exact E.out), rfl⟩
set_option maxRecDepth 100000 in
theorem div_any (a b : Int) (ha : R a) (h0 : b ≠ 0) (w : World) : Calls Tryz.prog 61 #[.int .i64 a, .int .i64 b] w fun e w' => e = .returned (.int .i64 (pureN 4 a b)) ∧ w' = w := by
  have E := hide (w_div (b := b) ha)
  clear ha
  go_enter Tryz.func61, Tryz.ntmps61
  go_wp2
  go_ret
  exact ⟨ret_int (by first | rfl | exact E.out), rfl⟩
set_option maxRecDepth 100000 in
theorem mod_any (a b : Int) (h0 : b ≠ 0) (w : World) : Calls Tryz.prog 62 #[.int .i64 a, .int .i64 b] w fun e w' => e = .returned (.int .i64 (pureN 5 a b)) ∧ w' = w := by
  go_enter Tryz.func62, Tryz.ntmps62
  go_wp2
  go_ret
  exact ⟨rfl, rfl⟩
set_option maxRecDepth 100000 in
theorem and_any (a b : Int)  (w : World) : Calls Tryz.prog 63 #[.int .i64 a, .int .i64 b] w fun e w' => e = .returned (.int .i64 (pureN 6 a b)) ∧ w' = w := by
  go_enter Tryz.func63, Tryz.ntmps63
  go_wp2
  go_ret
  exact ⟨rfl, rfl⟩
set_option maxRecDepth 100000 in
theorem or_any (a b : Int)  (w : World) : Calls Tryz.prog 64 #[.int .i64 a, .int .i64 b] w fun e w' => e = .returned (.int .i64 (pureN 7 a b)) ∧ w' = w := by
  go_enter Tryz.func64, Tryz.ntmps64
  go_wp2
  go_ret
  exact ⟨rfl, rfl⟩
set_option maxRecDepth 100000 in
theorem xor_any (a b : Int)  (w : World) : Calls Tryz.prog 65 #[.int .i64 a, .int .i64 b] w fun e w' => e = .returned (.int .i64 (pureN 8 a b)) ∧ w' = w := by
  go_enter Tryz.func65, Tryz.ntmps65
  go_wp2
  go_ret
  exact ⟨rfl, rfl⟩
set_option maxRecDepth 100000 in
theorem eq_any (a b : Int)  (w : World) : Calls Tryz.prog 66 #[.int .i64 a, .int .i64 b] w fun e w' => e = .returned (.int .i64 (pureN 9 a b)) ∧ w' = w := by
  have c := truth_any
  go_enter Tryz.func66, Tryz.ntmps66
  go_wp2_with fail
  refine (c _ _).mono ?_
  rintro e w1 ⟨rfl, rfl⟩
  go_wp2
  go_ret
  exact ⟨ret_int (by rfl), rfl⟩
set_option maxRecDepth 100000 in
theorem ne_any (a b : Int)  (w : World) : Calls Tryz.prog 68 #[.int .i64 a, .int .i64 b] w fun e w' => e = .returned (.int .i64 (pureN 10 a b)) ∧ w' = w := by
  have c := truth_any
  go_enter Tryz.func68, Tryz.ntmps68
  go_wp2_with fail
  refine (c _ _).mono ?_
  rintro e w1 ⟨rfl, rfl⟩
  go_wp2
  go_ret
  exact ⟨ret_int (by rw [ne_dec]; rfl), rfl⟩
set_option maxRecDepth 100000 in
theorem lt_any (a b : Int)  (w : World) : Calls Tryz.prog 69 #[.int .i64 a, .int .i64 b] w fun e w' => e = .returned (.int .i64 (pureN 11 a b)) ∧ w' = w := by
  have c := truth_any
  go_enter Tryz.func69, Tryz.ntmps69
  go_wp2_with fail
  refine (c _ _).mono ?_
  rintro e w1 ⟨rfl, rfl⟩
  go_wp2
  go_ret
  exact ⟨ret_int (by rfl), rfl⟩
set_option maxRecDepth 100000 in
theorem le_any (a b : Int)  (w : World) : Calls Tryz.prog 70 #[.int .i64 a, .int .i64 b] w fun e w' => e = .returned (.int .i64 (pureN 12 a b)) ∧ w' = w := by
  have c := truth_any
  go_enter Tryz.func70, Tryz.ntmps70
  go_wp2_with fail
  refine (c _ _).mono ?_
  rintro e w1 ⟨rfl, rfl⟩
  go_wp2
  go_ret
  exact ⟨ret_int (by rfl), rfl⟩
set_option maxRecDepth 100000 in
theorem gt_any (a b : Int)  (w : World) : Calls Tryz.prog 71 #[.int .i64 a, .int .i64 b] w fun e w' => e = .returned (.int .i64 (pureN 13 a b)) ∧ w' = w := by
  have c := truth_any
  go_enter Tryz.func71, Tryz.ntmps71
  go_wp2_with fail
  refine (c _ _).mono ?_
  rintro e w1 ⟨rfl, rfl⟩
  go_wp2
  go_ret
  exact ⟨ret_int (by rfl), rfl⟩
set_option maxRecDepth 100000 in
theorem ge_any (a b : Int)  (w : World) : Calls Tryz.prog 72 #[.int .i64 a, .int .i64 b] w fun e w' => e = .returned (.int .i64 (pureN 14 a b)) ∧ w' = w := by
  have c := truth_any
  go_enter Tryz.func72, Tryz.ntmps72
  go_wp2_with fail
  refine (c _ _).mono ?_
  rintro e w1 ⟨rfl, rfl⟩
  go_wp2
  go_ret
  exact ⟨ret_int (by rfl), rfl⟩
set_option maxRecDepth 100000 in
theorem neg_any (a : Int) (ha : R a) (w : World) : Calls Tryz.prog 73 #[.int .i64 a] w fun e w' => e = .returned (.int .i64 (-a)) ∧ w' = w := by
  have E := hide (w_neg ha)
  clear ha
  go_enter Tryz.func73, Tryz.ntmps73
  go_wp2
  go_ret
  exact ⟨ret_int E.out, rfl⟩
set_option maxRecDepth 100000 in
theorem not_any (a : Int) (ha : R a) (w : World) : Calls Tryz.prog 74 #[.int .i64 a] w fun e w' => e = .returned (.int .i64 (-1 - a)) ∧ w' = w := by
  have E := hide (w_not ha)
  clear ha
  go_enter Tryz.func74, Tryz.ntmps74
  go_wp2
  go_ret
  exact ⟨ret_int E.out, rfl⟩
set_option maxRecDepth 100000 in
set_option maxHeartbeats 1600000 in
theorem pure_any (op a b : Int) (ho : 1 ≤ op ∧ op ≤ 14) (ha : R a) (hb : R b) (h0 : (op = 4 ∨ op = 5) → b ≠ 0) (w : World) : Calls Tryz.prog 132 #[.int .i64 op, .int .i64 a, .int .i64 b] w fun e w' => e = .returned (.int .i64 (pureN op a b)) ∧ w' = w := by
  have c := flag_any
  have E1 := hide (w_add ha hb)
  have E2 := hide (w_sub ha hb)
  have E3 := hide (w_mul ha hb)
  have E4 := hide (w_div (b := b) ha)
  have : op = 1 ∨ op = 2 ∨ op = 3 ∨ op = 4 ∨ op = 5 ∨ op = 6 ∨ op = 7 ∨ op = 8 ∨ op = 9 ∨ op = 10 ∨ op = 11 ∨ op = 12 ∨ op = 13 ∨ op = 14 := by omega
  clear ho ha hb
  rcases this with rfl | rfl | rfl | rfl | rfl | rfl | rfl | rfl | rfl | rfl | rfl | rfl | rfl | rfl
  · clear h0 c
    go_enter Tryz.func132, Tryz.ntmps132
    go_wp2
    go_ret
    exact ⟨ret_int (by exact E1.out), rfl⟩
  · clear h0 c
    go_enter Tryz.func132, Tryz.ntmps132
    go_wp2
    go_ret
    exact ⟨ret_int (by exact E2.out), rfl⟩
  · clear h0 c
    go_enter Tryz.func132, Tryz.ntmps132
    go_wp2
    go_ret
    exact ⟨ret_int (by exact E3.out), rfl⟩
  · have h := h0 (by omega)
    clear h0 c
    go_enter Tryz.func132, Tryz.ntmps132
    go_wp2
    go_ret
    exact ⟨ret_int (by exact E4.out), rfl⟩
  · have h := h0 (by omega)
    clear h0 c
    go_enter Tryz.func132, Tryz.ntmps132
    go_wp2
    go_ret
    exact ⟨ret_int (by rfl), rfl⟩
  · clear h0 c
    go_enter Tryz.func132, Tryz.ntmps132
    go_wp2
    go_ret
    exact ⟨ret_int (by rfl), rfl⟩
  · clear h0 c
    go_enter Tryz.func132, Tryz.ntmps132
    go_wp2
    go_ret
    exact ⟨ret_int (by rfl), rfl⟩
  · clear h0 c
    go_enter Tryz.func132, Tryz.ntmps132
    go_wp2
    go_ret
    exact ⟨ret_int (by rfl), rfl⟩
  · clear h0
    go_enter Tryz.func132, Tryz.ntmps132
    go_wp2_with fail
    refine (c _ _).mono ?_
    rintro e w1 ⟨rfl, rfl⟩
    go_wp2
    go_ret
    exact ⟨ret_int (by rfl), rfl⟩
  · clear h0
    go_enter Tryz.func132, Tryz.ntmps132
    go_wp2_with fail
    refine (c _ _).mono ?_
    rintro e w1 ⟨rfl, rfl⟩
    go_wp2
    go_ret
    exact ⟨ret_int (by rw [ne_dec]; rfl), rfl⟩
  · clear h0
    go_enter Tryz.func132, Tryz.ntmps132
    go_wp2_with fail
    refine (c _ _).mono ?_
    rintro e w1 ⟨rfl, rfl⟩
    go_wp2
    go_ret
    exact ⟨ret_int (by rfl), rfl⟩
  · clear h0
    go_enter Tryz.func132, Tryz.ntmps132
    go_wp2_with fail
    refine (c _ _).mono ?_
    rintro e w1 ⟨rfl, rfl⟩
    go_wp2
    go_ret
    exact ⟨ret_int (by rfl), rfl⟩
  · clear h0
    go_enter Tryz.func132, Tryz.ntmps132
    go_wp2_with fail
    refine (c _ _).mono ?_
    rintro e w1 ⟨rfl, rfl⟩
    go_wp2
    go_ret
    exact ⟨ret_int (by rfl), rfl⟩
  · clear h0
    go_enter Tryz.func132, Tryz.ntmps132
    go_wp2_with fail
    refine (c _ _).mono ?_
    rintro e w1 ⟨rfl, rfl⟩
    go_wp2
    go_ret
    exact ⟨ret_int (by rfl), rfl⟩
end Go.Proofs.YtldjiieckddhkaaGreatDoor.Four
