/- The contract of quad.Walk. | The contracts of the document's Fits and Has; of typeSet.has and operation.result. | The contract of num.find: the table of rows, and the row of an operation. -/
import Derived.Test.YthifgfhgkdjkfabDoorMg2
import Derived.Test.YthifgfhgkdjkfabDoorMg0
import Derived.Deep.WholeRow
import Derived.Deep.DeepMust
import Derived.Great.BuildSlice
namespace Go.Proofs.YthifgfhgkdjkfabDoor
open Go.RowKit
/-- is a number a step? -/
def isS (n : Int) : Bool := decide (-1 ≤ n) && decide (n ≤ 1)
theorem isS_iff (n : Int) : isS n = true ↔ n = 0 ∨ n = 1 ∨ n = -1 := by unfold isS; simp; omega
/-- where a walk is behind k steps -/
def wlk (f : Nat) (l : List Int) : Nat → Nat
  | 0 => f
  | k + 1 => (((wlk f l k : Int) + l.getD k 0 + 4) % 4).toNat
def walkL (f : Nat) (l : List Int) : List Int := (List.range l.length).map fun k => ((wlk f l (k + 1) : Nat) : Int)
theorem walkL_length (f : Nat) (l : List Int) : (walkL f l).length = l.length := by unfold walkL; simp
def resL (f : Nat) (l : List Int) (k : Nat) : List Int := (List.range l.length).map fun j => if j < k then ((wlk f l (j + 1) : Nat) : Int) else 0
theorem resL_length (f : Nat) (l : List Int) (k : Nat) : (resL f l k).length = l.length := by unfold resL; simp
theorem resL_end (f : Nat) (l : List Int) : resL f l l.length = walkL f l := by
  unfold resL walkL
  refine List.map_congr_left fun j hj => ?_
  rw [if_pos (List.mem_range.1 hj)]
theorem resL_zero (f : Nat) (l : List Int) : resL f l 0 = List.replicate l.length 0 := by
  unfold resL
  refine List.ext_getElem (by simp) fun i h1 h2 => ?_
  simp
theorem resL_set (f : Nat) (l : List Int) (k : Nat) : (intC (resL f l k)).set k (.int .i64 ((wlk f l (k + 1) : Nat) : Int)) = intC (resL f l (k + 1)) := by
  refine List.ext_getElem? fun i => ?_
  rw [List.getElem?_set, intC_get, intC_get, intC_length, resL_length]
  unfold resL
  rw [List.getElem?_map, List.getElem?_map]
  by_cases hi : i < l.length
  · rw [List.getElem?_range hi]
    by_cases e : k = i
    · subst e
      simp [hi]
    · rw [if_neg e]
      simp only [Option.map_some]
      by_cases h : i < k
      · rw [if_pos h, if_pos (by omega)]
      · rw [if_neg h, if_neg (by omega)]
  · rw [List.getElem?_eq_none (by simp; omega)]
    by_cases e : k = i
    · subst e; simp [hi]
    · rw [if_neg e]; rfl
theorem own_on {w w' : World} {base e size n : Nat} {v : Value} {xs : List Value} (h : w.ownsRow base e size v n xs) (hb : Below w.heap.size w w') : w'.ownsRow base e size v n xs := by
  refine ⟨h.1, ?_⟩
  rcases h.2 with hn | ⟨g, cap, cur, rfl, hb', hg, rest⟩
  · exact .inl hn
  · exact .inr ⟨g, cap, cur, rfl, hb', (hb.block g (Array.getElem?_eq_some_iff.1 hg).1).trans hg, rest⟩
/-- is it a walk? -/
def okW (f : Int) (l : List Int) : Bool := isP f && l.all isS
def WalkPost (f : Int) (l : List Int) (w : World) (e : Ending) (w' : World) : Prop :=
  ∃ v, e = .returned (.tuple #[v, .int .i64 (if okW f l then 0 else 1)]) ∧ ILst w' v (if okW f l then walkL f.toNat l else []) ∧ Below w.heap.size w w'
theorem info3 : (Tryd.prog.info? 3).map (fun i => (i.zero, i.size, i.bytes)) = some (some (.int .i64 0), 1, 8) := by kernel_rfl
theorem wlk_lt {f : Nat} (hf : f < 4) (l : List Int) : ∀ k, wlk f l k < 4
  | 0 => hf
  | k + 1 => by rw [wlk]; omega
theorem wlk_next {f : Nat} {l : List Int} {k : Nat} {z : Int} (hz : l[k]? = some z) (hs : isS z = true) : (wlk f l k + ((z + 4) % 4).toNat) % 4 = wlk f l (k + 1) := by
  rw [wlk, List.getD_eq_getElem?_getD, hz]
  have := (isS_iff z).1 hs
  simp only [Option.getD_some]
  omega
theorem alls_take {l : List Int} {k : Nat} {x : Int} (h : (l.take k).all isS = true) (hx : l[k]? = some x) (h2 : isS x = true) : (l.take (k + 1)).all isS = true := by
  obtain ⟨hk, rfl⟩ := List.getElem?_eq_some_iff.1 hx
  rw [List.take_succ_eq_append_getElem hk, List.all_append, h, Bool.true_and, List.all_cons, h2]; rfl
theorem alls_no {l : List Int} {k : Nat} {x : Int} (hx : l[k]? = some x) (h2 : isS x = false) : l.all isS = false := by
  rw [List.all_eq_false]
  exact ⟨x, List.mem_of_getElem? hx, by rw [h2]; decide⟩
theorem numV_some {a b n : Nat} (h : plc a b = some n) : numV a b = .tuple #[.int .i64 ((n : Nat) : Int), .bool true] := by unfold numV; rw [h]
theorem res_cell {w : World} {base g N k F : Nat} {l : List Int} (h : w.ownsRow base 3 1 (.slice (some ⟨g, 0, none⟩) N N) N (intC (resL F l k))) (hN : N = l.length) (hk : k < N) : w.cell? ⟨g, k, none⟩ = some (.int .i64 0) := by
  rw [h.cellAt k (by omega), intC_get]
  unfold resL
  rw [List.getElem?_map, List.getElem?_range (by omega)]
  simp
end Go.Proofs.YthifgfhgkdjkfabDoor
namespace Go.Proofs.YthifgfhgkdjkfabDoor
open Go.RowKit
/-- which types an operation's row is for: the bit 1 << t -/
def bitT (s t : Int) : Bool := tyB t && (s / 2 ^ t.toNat % 2 == 1)
set_option maxRecDepth 100000 in
theorem has_any (s t : Int) (hs : s = 28 ∨ s = 12 ∨ s = 14 ∨ s = 30 ∨ s = 0) (w : World) : Calls Tryd.prog 62 #[.int .u8 s, .int .i64 t] w fun e w' => e = .returned (.bool (bitT s t)) ∧ w' = w := by
  have c := isType_any t
  cases hT : tyB t with
  | false =>
    have E := hide (show bitT s t = false by unfold bitT; rw [hT]; rfl)
    rw [hT] at c
    clear hT
    go_enter Tryd.func62, Tryd.ntmps62
    go_wp2_with fail
    refine (c _).mono ?_
    rintro e w1 ⟨rfl, rfl⟩
    go_wp2
    go_ret
    exact ⟨ret_bool (by rw [E.out]), rfl⟩
  | true =>
    have ht : t = 1 ∨ t = 2 ∨ t = 3 ∨ t = 4 := by
      unfold tyB at hT
      rw [Bool.and_eq_true] at hT
      have h1 := of_decide_eq_true hT.1
      have h2 := of_decide_eq_true hT.2
      omega
    rw [hT] at c
    clear hT
    rcases ht with rfl | rfl | rfl | rfl <;> rcases hs with rfl | rfl | rfl | rfl | rfl
    all_goals
      go_enter Tryd.func62, Tryd.ntmps62
      go_wp2_with fail
      refine (c _).mono ?_
      rintro e w1 ⟨rfl, rfl⟩
      go_wp2
      go_ret
      exact ⟨ret_bool (by decide +kernel), rfl⟩
end Go.Proofs.YthifgfhgkdjkfabDoor
namespace Go.Proofs.YthifgfhgkdjkfabDoor
open Go.RowKit
def rowS (k : Nat) : Int := ([0, 28, 28, 12, 12, 12, 14, 14, 14, 30, 30, 28, 28, 28, 28, 28, 14] : List Int).getD k 0
def rowCmp (k : Nat) : Bool := Nat.ble 9 k && Nat.ble k 14
def rowDiv (k : Nat) : Bool := Nat.beq k 4 || Nat.beq k 5
def fnNo (k : Nat) : Nat := ([0, 45, 46, 47, 48, 49, 50, 51, 52, 53, 55, 56, 57, 58, 59, 60, 61] : List Nat).getD k 0
def rowTwo (k : Nat) : Value := if Nat.ble 1 k && Nat.ble k 14 then .func (.func (fnNo k)) #[] #[] else .nilFunc
def rowOne (k : Nat) : Value := if Nat.ble 15 k then .func (.func (fnNo k)) #[] #[] else .nilFunc
/-- a row's five cells -/
def rowV (k : Nat) : Array Value := #[.int .u8 (rowS k), .bool (rowCmp k), .bool (rowDiv k), rowTwo k, rowOne k]
def rowsC : Array Value := ((List.range 17).flatMap fun k => (rowV k).toList).toArray
def zeroC : Array Value := ((List.range 17).flatMap fun _ => [.int .u8 0, .bool false, .bool false, .nilFunc, .nilFunc]).toArray
theorem info57 : (Tryd.prog.info? 124).map (fun i => (i.zero, i.size)) = some (some (.agg zeroC), 85) := by kernel_rfl
theorem zero57 (w : World) : (zeroValue 124).run Tryd.prog w = .ok (.agg zeroC) w := (zero_of_info info57).1 w
theorem size124 : (Tryd.prog.info? 124).map (·.size) = some rowsC.size := (zero_of_info info57).2.trans (by kernel_rfl)
theorem zero_size : zeroC.size = rowsC.size := by kernel_rfl
theorem rows_one : rowsC.all (·.oneCell') = true := by kernel_rfl
theorem rows_at (k : Nat) (hk : k < 17) : rowsC[k * 5]? = some (.int .u8 (rowS k)) ∧ rowsC[k * 5 + 1]? = some (.bool (rowCmp k)) ∧ rowsC[k * 5 + 2]? = some (.bool (rowDiv k)) ∧ rowsC[k * 5 + 3]? = some (rowTwo k) ∧ rowsC[k * 5 + 4]? = some (rowOne k) := by
  have : k = 0 ∨ k = 1 ∨ k = 2 ∨ k = 3 ∨ k = 4 ∨ k = 5 ∨ k = 6 ∨ k = 7 ∨ k = 8 ∨ k = 9 ∨ k = 10 ∨ k = 11 ∨ k = 12 ∨ k = 13 ∨ k = 14 ∨ k = 15 ∨ k = 16 := by omega
  rcases this with rfl | rfl | rfl | rfl | rfl | rfl | rfl | rfl | rfl | rfl | rfl | rfl | rfl | rfl | rfl | rfl | rfl
  all_goals exact ⟨by rfl, by rfl, by rfl, by rfl, by rfl⟩
theorem rowS_in (k : Nat) : rowS k = 28 ∨ rowS k = 12 ∨ rowS k = 14 ∨ rowS k = 30 ∨ rowS k = 0 := by
  by_cases hk : k < 17
  · have : k = 0 ∨ k = 1 ∨ k = 2 ∨ k = 3 ∨ k = 4 ∨ k = 5 ∨ k = 6 ∨ k = 7 ∨ k = 8 ∨ k = 9 ∨ k = 10 ∨ k = 11 ∨ k = 12 ∨ k = 13 ∨ k = 14 ∨ k = 15 ∨ k = 16 := by omega
    rcases this with rfl | rfl | rfl | rfl | rfl | rfl | rfl | rfl | rfl | rfl | rfl | rfl | rfl | rfl | rfl | rfl | rfl
    all_goals decide
  · right; right; right; right
    unfold rowS
    rw [List.getD_eq_getElem?_getD, List.getElem?_eq_none (by simp; omega)]; rfl
theorem at_build {P : Program} {ops : Array Oper} {rest : List Oper} {a : Act} {w : World} {Q : Exit → Act → World → Prop} {pos : String} {after : Array Edge} {dst : Option Tmp} {ty ty' : TypeId} {x : Array (Nat × Operand)} {g : Option (Nat × Bool)}
    (h : wpList P ops Q ({ dst := dst, op := .build ty x, type := ty', pos := pos, after := after, guard := g } :: rest) a w) : wpList P ops Q ({ dst := dst, op := .build ty x, type := ty', pos := pos, after := after, guard := g } :: rest) a w := h
theorem at_store {P : Program} {ops : Array Oper} {rest : List Oper} {a : Act} {w : World} {Q : Exit → Act → World → Prop} {pos : String} {after : Array Edge} {dst : Option Tmp} {ty ty' : TypeId} {x y : Operand} {g : Option (Nat × Bool)}
    (h : wpList P ops Q ({ dst := dst, op := .store ty x y, type := ty', pos := pos, after := after, guard := g } :: rest) a w) : wpList P ops Q ({ dst := dst, op := .store ty x y, type := ty', pos := pos, after := after, guard := g } :: rest) a w := h
theorem two_at (w : World) (o1 o2 : Obj) : ((w.alloc o1).alloc o2).heap[w.heap.size + 1]? = some o2 := by
  rw [show w.heap.size + 1 = (w.alloc o1).heap.size from by simp, heap_alloc_new]
theorem two_set (w : World) (o1 : Obj) (c c' : Array Value) (t : TypeId) : ((w.alloc o1).alloc (.cells c t)).setRow (w.heap.size + 1) c' = (w.alloc o1).alloc (.cells c' t) := by
  rw [show w.heap.size + 1 = (w.alloc o1).heap.size from by simp, World.setRow_alloc_new]
/-- a row that is none -/
def noRow : Array Value := #[.int .u8 0, .bool false, .bool false, .nilFunc, .nilFunc]
theorem size119 : (Tryd.prog.info? 119).map (·.size) = some 5 := by kernel_rfl
theorem func_one (k : Nat) : (Value.func (.func k) #[] #[]).oneCell' = true := rfl
theorem row_one (k : Nat) : (rowV k).all (·.oneCell') = true := by
  have h1 : (rowTwo k).oneCell' = true := by unfold rowTwo; split <;> rfl
  have h2 : (rowOne k).oneCell' = true := by unfold rowOne; split <;> rfl
  show (#[Value.int .u8 (rowS k), .bool (rowCmp k), .bool (rowDiv k), rowTwo k, rowOne k] : Array Value).all (·.oneCell') = true
  generalize rowTwo k = x at *
  generalize rowOne k = y at *
  rw [← Array.all_toList]
  show ((Value.int .u8 (rowS k)).oneCell' && ((Value.bool (rowCmp k)).oneCell' && ((Value.bool (rowDiv k)).oneCell' && (x.oneCell' && (y.oneCell' && true))))) = true
  rw [h1, h2]; rfl
theorem noRow_one : noRow.all (·.oneCell') = true := by kernel_rfl
theorem one_at (w : World) (o1 o2 : Obj) : ((w.alloc o1).alloc o2).heap[w.heap.size]? = some o1 := by
  rw [heap_alloc_old _ _ (by simp), heap_alloc_new]
theorem below2 (w : World) (o1 o2 : Obj) : Below w.heap.size w ((w.alloc o1).alloc o2) := ((Below.refl _ _).alloc (Nat.le_refl _) _).alloc (by simp) _
theorem heap_setRow_same (w : World) (g : Nat) (old cs : Array Value) (t : TypeId) (hg : w.heap[g]? = some (.cells old t (0, 0))) : (w.setRow g cs).heap[g]? = some (.cells cs t (0, 0)) := by
  simp [World.setRow, Array.getElem?_modify, hg]
theorem below_setRow' {w0 w : World} {B g : Nat} (hb : Below B w0 w) (cs : Array Value) (h : B ≤ g) : Below B w0 (w.setRow g cs) :=
  hb.trans ⟨rfl, rfl, rfl, by simp, fun k hk => by simp only [World.setRow, Array.getElem?_modify]; rw [if_neg (by omega)]⟩
theorem results_row_tmp {P : Program} {fn : Func} {p u : Tmp} {ty : TypeId} (h : fn.results = #[.cell p ty, .tmp u]) (tmps : Array Value) (w : World) (g : Nat) (t : TypeId) (cs : Array Value) (fr : Nat × Nat) (d : TypeDesc) (v : Value)
    (hp : tmps.getD p undef = .pointer (some ⟨g, 0, none⟩)) (hv : tmps.getD u undef = v) (hg : w.heap[g]? = some (.cells cs t fr))
    (hu : P.underlying ty = some d) (hd : (match d with | .struct _ | .array _ _ => true | _ => false) = true) (hi : (P.info? ty).map (·.size) = some cs.size) :
    (results fn tmps).run P w = .ok (.tuple #[.agg cs, v]) w := by
  have hp' : tmps[p]?.getD undef = .pointer (some ⟨g, 0, none⟩) := by simpa using hp
  have hv' : tmps[u]?.getD undef = v := by simpa using hv
  simp [results, h, hp', hv', asAddr, run_loadVar_row w g t ty cs fr d hg hu hd hi]
theorem mkW_cell (w : World) (j : Nat) (v : Value) (h : rowsC[j]? = some v) : ((w.alloc (.cells #[.int .u8 0, .bool false, .bool false, .nilFunc, .nilFunc] 119)).alloc (.cells rowsC 124)).cell? ⟨w.heap.size + 1, j, none⟩ = some v :=
  (cell_of_row _ _ j rowsC 124 (0, 0) (two_at w _ _)).trans h
set_option maxRecDepth 100000 in
set_option maxHeartbeats 1600000 in
theorem find_out (op t : Int) (w : World) (ho : op < 0 ∨ 17 ≤ op) : Calls Tryd.prog 42 #[.int .i64 op, .int .i64 t] w fun e w' => e = .returned (.tuple #[.agg noRow, .bool false]) ∧ Below w.heap.size w w' := by
  have hz := zero57
  have h0 := size124
  have h1 := zero_size
  have h2 := rows_one
  have hR := hide (heap_setRow_same _ w.heap.size noRow (noRow) 119 (one_at w (.cells noRow 119) (.cells rowsC 124)))
  have hB := hide (below_setRow' (below2 w (.cells noRow 119) (.cells rowsC 124)) (noRow) (Nat.le_refl w.heap.size))
  rcases ho with ho | ho
  · go_enter Tryd.func42, Tryd.ntmps42
    go_wp2_with (first | ((with_reducible refine at_build (dst := some 23) ?_); go_must (refine wpList_buildTo rfl 124 _ rfl (some 23) rfl rowsC (by kernel_rfl) ?_)) | ((with_reducible refine at_store (ty := 124) ?_); go_must (refine wpList_store_rowTo rfl 124 _ _ rfl rfl _ rowsC rfl rfl 124 zeroC (two_at w _ _) h0 h1 h2 ?_; rw [two_set])) | ((with_reducible refine at_store (ty := 119) ?_); go_must (refine wpList_store_rowTo rfl 119 _ _ rfl rfl w.heap.size (noRow) rfl rfl 119 noRow (one_at w _ _) size119 rfl noRow_one ?_)))
    refine bodyPost_ret (v := .tuple #[.agg (noRow), .bool false]) ?_ rfl ⟨rfl, hB.out⟩
    exact results_row_tmp Tryd.results42 _ _ w.heap.size 119 (noRow) (0, 0) _ _ rfl rfl hR.out Tryd.underlying119 rfl size119
  · have i0 : ¬ op < 0 := by omega
    go_enter Tryd.func42, Tryd.ntmps42
    go_wp2_with (first | ((with_reducible refine at_build (dst := some 23) ?_); go_must (refine wpList_buildTo rfl 124 _ rfl (some 23) rfl rowsC (by kernel_rfl) ?_)) | ((with_reducible refine at_store (ty := 124) ?_); go_must (refine wpList_store_rowTo rfl 124 _ _ rfl rfl _ rowsC rfl rfl 124 zeroC (two_at w _ _) h0 h1 h2 ?_; rw [two_set])) | ((with_reducible refine at_store (ty := 119) ?_); go_must (refine wpList_store_rowTo rfl 119 _ _ rfl rfl w.heap.size (noRow) rfl rfl 119 noRow (one_at w _ _) size119 rfl noRow_one ?_)))
    refine bodyPost_ret (v := .tuple #[.agg (noRow), .bool false]) ?_ rfl ⟨rfl, hB.out⟩
    exact results_row_tmp Tryd.results42 _ _ w.heap.size 119 (noRow) (0, 0) _ _ rfl rfl hR.out Tryd.underlying119 rfl size119
set_option maxRecDepth 100000 in
set_option maxHeartbeats 1600000 in
theorem find_in (t : Int) (w : World) (k : Nat) (hk : k < 17) : Calls Tryd.prog 42 #[.int .i64 (k : Int), .int .i64 t] w fun e w' => e = .returned (.tuple #[.agg (if bitT (rowS k) t then rowV k else noRow), .bool (bitT (rowS k) t)]) ∧ Below w.heap.size w w' := by
  have c := has_any (rowS k) t (rowS_in k)
  have hz := zero57
  have h0 := size124
  have h1 := zero_size
  have h2 := rows_one
  have h3 := row_one k
  have i0 : (0 : Int) ≤ (k : Int) := by omega
  have i1 : (k : Int) < 17 := by omega
  obtain ⟨r0, r1, r2, r3, r4⟩ := rows_at k hk
  have q0 := mkW_cell w _ _ r0
  have q1 := mkW_cell w _ _ r1
  have q2 := mkW_cell w _ _ r2
  have q3 := mkW_cell w _ _ r3
  have q4 := mkW_cell w _ _ r4
  clear r0 r1 r2 r3 r4 hk
  cases hb : bitT (rowS k) t with
  | false =>
    rw [hb] at c
    clear hb
    have hR := hide (heap_setRow_same _ w.heap.size noRow (noRow) 119 (one_at w (.cells noRow 119) (.cells rowsC 124)))
    have hB := hide (below_setRow' (below2 w (.cells noRow 119) (.cells rowsC 124)) (noRow) (Nat.le_refl w.heap.size))
    go_enter Tryd.func42, Tryd.ntmps42
    go_wp2_with (first | ((with_reducible refine at_build (dst := some 23) ?_); go_must (refine wpList_buildTo rfl 124 _ rfl (some 23) rfl rowsC (by kernel_rfl) ?_)) | ((with_reducible refine at_store (ty := 124) ?_); go_must (refine wpList_store_rowTo rfl 124 _ _ rfl rfl _ rowsC rfl rfl 124 zeroC (two_at w _ _) h0 h1 h2 ?_; rw [two_set])))
    refine (c _).mono ?_
    rintro e w1 ⟨rfl, rfl⟩
    go_wp2_with (((with_reducible refine at_store (ty := 119) ?_); go_must (refine wpList_store_rowTo rfl 119 _ _ rfl rfl w.heap.size (noRow) rfl rfl 119 noRow (one_at w _ _) size119 rfl noRow_one ?_)))
    refine bodyPost_ret (v := .tuple #[.agg (noRow), .bool false]) ?_ rfl ⟨rfl, hB.out⟩
    exact results_row_tmp Tryd.results42 _ _ w.heap.size 119 (noRow) (0, 0) _ _ rfl rfl hR.out Tryd.underlying119 rfl size119
  | true =>
    rw [hb] at c
    clear hb
    have hR := hide (heap_setRow_same _ w.heap.size noRow (rowV k) 119 (one_at w (.cells noRow 119) (.cells rowsC 124)))
    have hB := hide (below_setRow' (below2 w (.cells noRow 119) (.cells rowsC 124)) (rowV k) (Nat.le_refl w.heap.size))
    go_enter Tryd.func42, Tryd.ntmps42
    go_wp2_with (first | ((with_reducible refine at_build (dst := some 23) ?_); go_must (refine wpList_buildTo rfl 124 _ rfl (some 23) rfl rowsC (by kernel_rfl) ?_)) | ((with_reducible refine at_store (ty := 124) ?_); go_must (refine wpList_store_rowTo rfl 124 _ _ rfl rfl _ rowsC rfl rfl 124 zeroC (two_at w _ _) h0 h1 h2 ?_; rw [two_set])))
    refine (c _).mono ?_
    rintro e w1 ⟨rfl, rfl⟩
    go_wp2_with (((with_reducible refine at_store (ty := 119) ?_); go_must (refine wpList_store_rowTo rfl 119 _ _ rfl rfl w.heap.size (rowV k) rfl rfl 119 noRow (one_at w _ _) size119 rfl (h3) ?_)))
    refine bodyPost_ret (v := .tuple #[.agg (rowV k), .bool true]) ?_ rfl ⟨rfl, hB.out⟩
    exact results_row_tmp Tryd.results42 _ _ w.heap.size 119 (rowV k) (0, 0) _ _ rfl rfl hR.out Tryd.underlying119 rfl size119
end Go.Proofs.YthifgfhgkdjkfabDoor
