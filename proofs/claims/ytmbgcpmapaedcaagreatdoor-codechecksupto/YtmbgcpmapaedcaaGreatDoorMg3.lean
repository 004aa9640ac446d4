/- Images: plain definitions, and slices of instructions in memory. | The contracts of the document's Fits and Has; of typeSet.has and operation.result. | The contract of num.find: the table of rows, and the row of an operation. -/
import Derived.Test.YtmbgcpmapaedcaaGreatDoorMg1
import Derived.Test.YtmbgcpmapaedcaaGreatDoorMg2
import Derived.Deep.WholeRow
import Derived.Deep.DeepMust
import Derived.Great.BuildSlice
namespace Go.Proofs.YtmbgcpmapaedcaaGreatDoor
open Go.RowKit
/-- an instruction -/
structure Ins where
  op : Int
  a : Int
  b : Int
  n : Int
deriving DecidableEq
/-- an image -/
structure Img where
  name : List UInt8
  ty : List Int
  fi : List Int
  ins : List Int
  outs : List Int
  cd : List Ins
def inB (c : Int) (n : Nat) : Bool := decide (0 ≤ c) && decide (c < (n : Int))
def fromB (n : Nat) (c m : Int) : Bool := inB c n && decide (m ≤ (n : Int) - c)
def arrB (ty : List Int) (a b : Int) : Bool := decide (1 ≤ b) && (decide (b ≤ 32) && (fromB ty.length a b && ((ty.drop a.toNat).take b.toNat).all fun t => t == ty.getD a.toNat 0))
def fldT (k : Int) : List Int := (fldK k).map Prod.fst
def blkB (ty : List Int) (k b : Int) : Bool := kindOk k && (fromB ty.length b ((fldK k).length : Int) && ((ty.drop b.toNat).take (fldK k).length == fldT k))
/-- what of an instruction must be 0 -/
def hasN (op : Int) : Nat := if op = 1 then 5 else if op = 2 ∨ op = 3 ∨ op = 9 ∨ op = 10 then 1 else if op = 12 then 0 else 3
def zeroB (h : Nat) (i : Ins) : Bool := (decide (h % 2 ≠ 0) || decide (i.a = 0)) && ((decide (h / 2 % 2 ≠ 0) || decide (i.b = 0)) && (decide (h / 4 % 2 ≠ 0) || decide (i.n = 0)))
def rightB (ty : List Int) (m : Nat) (i : Ins) : Bool :=
  if i.op = 1 then Four.fitB i.a i.n
  else if i.op = 2 ∨ i.op = 3 then inB i.a ty.length
  else if i.op = 4 ∨ i.op = 5 then arrB ty i.a i.b
  else if i.op = 6 then Four.has2 i.a i.b
  else if i.op = 7 then Four.has1 i.a i.b
  else if i.op = 8 then Four.tyB i.a && (Four.tyB i.b && decide ((i.a = 1) ↔ (i.b = 1)))
  else if i.op = 9 ∨ i.op = 10 then inB i.a m
  else if i.op = 11 then blkB ty i.a i.b else true
def mayI (ty : List Int) (m : Nat) (i : Ins) : Bool := (decide (1 ≤ i.op) && decide (i.op ≤ 12)) && (zeroB (hasN i.op) i && rightB ty m i)
/-- cells, none of them twice, nor among those ahead -/
def lineB (n : Nat) : List Int → List Int → Bool
  | _, [] => true
  | seen, c :: r => inB c n && (!(seen.contains c) && lineB n (c :: seen) r)
def cellB (x : Img) : Bool := decide (x.ty.length = x.fi.length) && (decide (x.ty.length ≤ 1024) && (List.zipWith Four.fitB x.ty x.fi).all id)
def frameB (x : Img) : Bool := Ex.nameB x.name && (cellB x && (lineB x.ty.length [] (x.ins ++ x.outs) && (decide (1 ≤ x.cd.length) && decide (x.cd.length ≤ 4096))))
/-- the first instruction that may not be -/
def badAt (ty : List Int) (m : Nat) : Nat → List Ins → Option Nat
  | _, [] => none
  | k, i :: r => if mayI ty m i then badAt ty m (k + 1) r else some k
def chkP (x : Img) : Int × Int := if frameB x then (match badAt x.ty x.cd.length 0 x.cd with | none => (0, 0) | some k => ((k : Int), 130)) else (-1, 130)
/-- a slice of instructions -/
def ISt (w : World) (v : Value) (l : List Ins) : Prop :=
  ∃ a b off cap, v = .slice a l.length cap ∧ (0 < l.length → b < w.heap.size ∧ a = some ⟨b, off, none⟩) ∧
    ∀ i q, l[i]? = some q → w.cell? ⟨b, off + i * 4, none⟩ = some (.int .i64 q.op) ∧ w.cell? ⟨b, off + i * 4 + 1, none⟩ = some (.int .i64 q.a) ∧ w.cell? ⟨b, off + i * 4 + 2, none⟩ = some (.int .i64 q.b) ∧ w.cell? ⟨b, off + i * 4 + 3, none⟩ = some (.int .i64 q.n)
theorem ISt.on {w w' : World} {v : Value} {l : List Ins} (h : ISt w v l) (hb : Below w.heap.size w w') : ISt w' v l := by
  obtain ⟨a, b, off, cap, rfl, h0, hI⟩ := h
  refine ⟨a, b, off, cap, rfl, fun h => ⟨by have := hb.size; have := (h0 h).1; omega, (h0 h).2⟩, fun i q hq => ?_⟩
  have hlt : b < w.heap.size := (h0 (by have := (List.getElem?_eq_some_iff.1 hq).1; omega)).1
  obtain ⟨h1, h2, h3, h4⟩ := hI i q hq
  exact ⟨(hb.cell (p := ⟨b, _, none⟩) hlt).trans h1, (hb.cell (p := ⟨b, _, none⟩) hlt).trans h2, (hb.cell (p := ⟨b, _, none⟩) hlt).trans h3, (hb.cell (p := ⟨b, _, none⟩) hlt).trans h4⟩
/-- an image's six cells -/
structure Im (w : World) (nm tv fv iv ov cv : Value) (x : Img) : Prop where
  name : nm = .string ⟨x.name.toArray⟩
  ty : ILst w tv x.ty
  fi : ILst w fv x.fi
  ins : ILst w iv x.ins
  outs : ILst w ov x.outs
  cd : ISt w cv x.cd
theorem Im.on {w w' : World} {nm tv fv iv ov cv : Value} {x : Img} (h : Im w nm tv fv iv ov cv x) (hb : Below w.heap.size w w') : Im w' nm tv fv iv ov cv x :=
  ⟨h.name, h.ty.on hb, h.fi.on hb, h.ins.on hb, h.outs.on hb, h.cd.on hb⟩
end Go.Proofs.YtmbgcpmapaedcaaGreatDoor
namespace Go.Proofs.YtmbgcpmapaedcaaGreatDoor.Four
open Go.RowKit
set_option maxRecDepth 100000 in
theorem fitsR_any (t n : Int) (w : World) : Calls Tryz.prog 20 #[.int .i64 t, .int .i64 n] w fun e w' => e = .returned (.bool (fitB t n)) ∧ w' = w := by
  by_cases h1 : t = 1
  · subst h1
    have E := hide (show fitB 1 n = (decide (n = 0) || decide (n = 1)) by unfold fitB; rw [if_pos rfl])
    go_enter Tryz.func20, Tryz.ntmps20
    go_wp2
    all_goals
      go_ret
      refine ⟨ret_bool ?_, rfl⟩
      rw [E.out]
      clear E
      rw [Bool.eq_iff_iff]
      simp [*]
  · have E := hide (show fitB t n = (tyB t && (decide (-(szN t / 2) ≤ n) && decide (n < szN t / 2))) by unfold fitB; rw [if_neg h1])
    have c := type_any t
    have d := size_any t
    have hs := sz_pos t
    generalize szN t = m at *
    cases hT : tyB t with
    | false =>
      rw [hT] at c E
      clear hT d hs
      go_enter Tryz.func20, Tryz.ntmps20
      go_wp2_with fail
      refine (c _).mono ?_
      rintro e w1 ⟨rfl, rfl⟩
      go_wp2
      go_ret
      exact ⟨ret_bool (by rw [E.out]; rfl), rfl⟩
    | true =>
      rw [hT, Bool.true_and] at E
      rw [hT] at c
      clear hT
      rcases hs with rfl | rfl
      all_goals
        go_enter Tryz.func20, Tryz.ntmps20
        go_wp2_with fail
        refine (c _).mono ?_
        rintro e w1 ⟨rfl, rfl⟩
        go_wp2_with fail
        refine (d _).mono ?_
        rintro e w1 ⟨rfl, rfl⟩
        go_wp2_with fail
        · refine (d _).mono ?_
          rintro e w1 ⟨rfl, rfl⟩
          go_wp2
          all_goals
            go_ret
            refine ⟨ret_bool ?_, rfl⟩
            rw [E.out]
            simp
            omega
        all_goals
          go_ret
          refine ⟨ret_bool ?_, rfl⟩
          rw [E.out]
          simp
          omega
/-- which types an operation's row is for: the bit 1 << t -/
def bitT (s t : Int) : Bool := tyB t && (s / 2 ^ t.toNat % 2 == 1)
set_option maxRecDepth 100000 in
theorem has_any (s t : Int) (hs : s = 28 ∨ s = 12 ∨ s = 14 ∨ s = 30 ∨ s = 0) (w : World) : Calls Tryz.prog 142 #[.int .u8 s, .int .i64 t] w fun e w' => e = .returned (.bool (bitT s t)) ∧ w' = w := by
  have c := isType_any t
  cases hT : tyB t with
  | false =>
    have E := hide (show bitT s t = false by unfold bitT; rw [hT]; rfl)
    rw [hT] at c
    clear hT
    go_enter Tryz.func142, Tryz.ntmps142
    go_wp2_with fail
    refine (c _).mono ?_
    rintro e w1 ⟨rfl, rfl⟩
    go_wp2
    go_ret
    exact ⟨ret_bool (by rw [E.out]), rfl⟩
  | true =>
    have ht : t = 1 ∨ t = 2 ∨ t = 3 ∨ t = 4 := by
      unfold tyB at hT
      rw [Bool.and_eq_true] at hT
      have h1 := of_decide_eq_true hT.1
      have h2 := of_decide_eq_true hT.2
      omega
    rw [hT] at c
    clear hT
    rcases ht with rfl | rfl | rfl | rfl <;> rcases hs with rfl | rfl | rfl | rfl | rfl
    all_goals
      go_enter Tryz.func142, Tryz.ntmps142
      go_wp2_with fail
      refine (c _).mono ?_
      rintro e w1 ⟨rfl, rfl⟩
      go_wp2
      go_ret
      exact ⟨ret_bool (by decide +kernel), rfl⟩
end Go.Proofs.YtmbgcpmapaedcaaGreatDoor.Four
namespace Go.Proofs.YtmbgcpmapaedcaaGreatDoor.Four
open Go.RowKit
def rowS (k : Nat) : Int := ([0, 28, 28, 12, 12, 12, 14, 14, 14, 30, 30, 28, 28, 28, 28, 28, 14] : List Int).getD k 0
def rowCmp (k : Nat) : Bool := Nat.ble 9 k && Nat.ble k 14
def rowDiv (k : Nat) : Bool := Nat.beq k 4 || Nat.beq k 5
def fnNo (k : Nat) : Nat := ([0, 125, 126, 127, 128, 129, 130, 131, 132, 133, 135, 136, 137, 138, 139, 140, 141] : List Nat).getD k 0
def rowTwo (k : Nat) : Value := if Nat.ble 1 k && Nat.ble k 14 then .func (.func (fnNo k)) #[] #[] else .nilFunc
def rowOne (k : Nat) : Value := if Nat.ble 15 k then .func (.func (fnNo k)) #[] #[] else .nilFunc
/-- a row's five cells -/
def rowV (k : Nat) : Array Value := #[.int .u8 (rowS k), .bool (rowCmp k), .bool (rowDiv k), rowTwo k, rowOne k]
def rowsC : Array Value := ((List.range 17).flatMap fun k => (rowV k).toList).toArray
def zeroC : Array Value := ((List.range 17).flatMap fun _ => [.int .u8 0, .bool false, .bool false, .nilFunc, .nilFunc]).toArray
theorem info57 : (Tryz.prog.info? 188).map (fun i => (i.zero, i.size)) = some (some (.agg zeroC), 85) := by kernel_rfl
theorem zero57 (w : World) : (zeroValue 188).run Tryz.prog w = .ok (.agg zeroC) w := (zero_of_info info57).1 w
theorem size188 : (Tryz.prog.info? 188).map (·.size) = some rowsC.size := (zero_of_info info57).2.trans (by kernel_rfl)
theorem zero_size : zeroC.size = rowsC.size := by kernel_rfl
theorem rows_one : rowsC.all (·.oneCell') = true := by kernel_rfl
theorem rows_at (k : Nat) (hk : k < 17) : rowsC[k * 5]? = some (.int .u8 (rowS k)) ∧ rowsC[k * 5 + 1]? = some (.bool (rowCmp k)) ∧ rowsC[k * 5 + 2]? = some (.bool (rowDiv k)) ∧ rowsC[k * 5 + 3]? = some (rowTwo k) ∧ rowsC[k * 5 + 4]? = some (rowOne k) := by
  have : k = 0 ∨ k = 1 ∨ k = 2 ∨ k = 3 ∨ k = 4 ∨ k = 5 ∨ k = 6 ∨ k = 7 ∨ k = 8 ∨ k = 9 ∨ k = 10 ∨ k = 11 ∨ k = 12 ∨ k = 13 ∨ k = 14 ∨ k = 15 ∨ k = 16 := by omega
  rcases this with rfl | rfl | rfl | rfl | rfl | rfl | rfl | rfl | rfl | rfl | rfl | rfl | rfl | rfl | rfl | rfl | rfl
  all_goals exact ⟨by rfl, by rfl, by rfl, by rfl, by rfl⟩
theorem rowS_in (k : Nat) : rowS k = 28 ∨ rowS k = 12 ∨ rowS k = 14 ∨ rowS k = 30 ∨ rowS k = 0 := by
  by_cases hk : k < 17
  · have : k = 0 ∨ k = 1 ∨ k = 2 ∨ k = 3 ∨ k = 4 ∨ k = 5 ∨ k = 6 ∨ k = 7 ∨ k = 8 ∨ k = 9 ∨ k = 10 ∨ k = 11 ∨ k = 12 ∨ k = 13 ∨ k = 14 ∨ k = 15 ∨ k = 16 := by omega
    rcases this with rfl | rfl | rfl | rfl | rfl | rfl | rfl | rfl | rfl | rfl | rfl | rfl | rfl | rfl | rfl | rfl | rfl
    all_goals decide
  · right; right; right; right
    unfold rowS
    rw [List.getD_eq_getElem?_getD, List.getElem?_eq_none (by simp; omega)]; rfl
theorem at_build {P : Program} {ops : Array Oper} {rest : List Oper} {a : Act} {w : World} {Q : Exit → Act → World → Prop} {pos : String} {after : Array Edge} {dst : Option Tmp} {ty ty' : TypeId} {x : Array (Nat × Operand)} {g : Option (Nat × Bool)}
    (h : wpList P ops Q ({ dst := dst, op := .build ty x, type := ty', pos := pos, after := after, guard := g } :: rest) a w) : wpList P ops Q ({ dst := dst, op := .build ty x, type := ty', pos := pos, after := after, guard := g } :: rest) a w := h
theorem at_store {P : Program} {ops : Array Oper} {rest : List Oper} {a : Act} {w : World} {Q : Exit → Act → World → Prop} {pos : String} {after : Array Edge} {dst : Option Tmp} {ty ty' : TypeId} {x y : Operand} {g : Option (Nat × Bool)}
    (h : wpList P ops Q ({ dst := dst, op := .store ty x y, type := ty', pos := pos, after := after, guard := g } :: rest) a w) : wpList P ops Q ({ dst := dst, op := .store ty x y, type := ty', pos := pos, after := after, guard := g } :: rest) a w := h
theorem two_at (w : World) (o1 o2 : Obj) : ((w.alloc o1).alloc o2).heap[w.heap.size + 1]? = some o2 := by
  rw [show w.heap.size + 1 = (w.alloc o1).heap.size from by simp, heap_alloc_new]
theorem two_set (w : World) (o1 : Obj) (c c' : Array Value) (t : TypeId) : ((w.alloc o1).alloc (.cells c t)).setRow (w.heap.size + 1) c' = (w.alloc o1).alloc (.cells c' t) := by
  rw [show w.heap.size + 1 = (w.alloc o1).heap.size from by simp, World.setRow_alloc_new]
/-- a row that is none -/
def noRow : Array Value := #[.int .u8 0, .bool false, .bool false, .nilFunc, .nilFunc]
theorem size163 : (Tryz.prog.info? 163).map (·.size) = some 5 := by kernel_rfl
theorem func_one (k : Nat) : (Value.func (.func k) #[] #[]).oneCell' = true := rfl
theorem row_one (k : Nat) : (rowV k).all (·.oneCell') = true := by
  have h1 : (rowTwo k).oneCell' = true := by unfold rowTwo; split <;> rfl
  have h2 : (rowOne k).oneCell' = true := by unfold rowOne; split <;> rfl
  show (#[Value.int .u8 (rowS k), .bool (rowCmp k), .bool (rowDiv k), rowTwo k, rowOne k] : Array Value).all (·.oneCell') = true
  generalize rowTwo k = x at *
  generalize rowOne k = y at *
  rw [← Array.all_toList]
  show ((Value.int .u8 (rowS k)).oneCell' && ((Value.bool (rowCmp k)).oneCell' && ((Value.bool (rowDiv k)).oneCell' && (x.oneCell' && (y.oneCell' && true))))) = true
  rw [h1, h2]; rfl
theorem noRow_one : noRow.all (·.oneCell') = true := by kernel_rfl
theorem one_at (w : World) (o1 o2 : Obj) : ((w.alloc o1).alloc o2).heap[w.heap.size]? = some o1 := by
  rw [heap_alloc_old _ _ (by simp), heap_alloc_new]
theorem below2 (w : World) (o1 o2 : Obj) : Below w.heap.size w ((w.alloc o1).alloc o2) := ((Below.refl _ _).alloc (Nat.le_refl _) _).alloc (by simp) _
theorem heap_setRow_same (w : World) (g : Nat) (old cs : Array Value) (t : TypeId) (hg : w.heap[g]? = some (.cells old t (0, 0))) : (w.setRow g cs).heap[g]? = some (.cells cs t (0, 0)) := by
  simp [World.setRow, Array.getElem?_modify, hg]
theorem below_setRow' {w0 w : World} {B g : Nat} (hb : Below B w0 w) (cs : Array Value) (h : B ≤ g) : Below B w0 (w.setRow g cs) :=
  hb.trans ⟨rfl, rfl, rfl, by simp, fun k hk => by simp only [World.setRow, Array.getElem?_modify]; rw [if_neg (by omega)]⟩
theorem results_row_tmp {P : Program} {fn : Func} {p u : Tmp} {ty : TypeId} (h : fn.results = #[.cell p ty, .tmp u]) (tmps : Array Value) (w : World) (g : Nat) (t : TypeId) (cs : Array Value) (fr : Nat × Nat) (d : TypeDesc) (v : Value)
    (hp : tmps.getD p undef = .pointer (some ⟨g, 0, none⟩)) (hv : tmps.getD u undef = v) (hg : w.heap[g]? = some (.cells cs t fr))
    (hu : P.underlying ty = some d) (hd : (match d with | .struct _ | .array _ _ => true | _ => false) = true) (hi : (P.info? ty).map (·.size) = some cs.size) :
    (results fn tmps).run P w = .ok (.tuple #[.agg cs, v]) w := by
  have hp' : tmps[p]?.getD undef = .pointer (some ⟨g, 0, none⟩) := by simpa using hp
  have hv' : tmps[u]?.getD undef = v := by simpa using hv
  simp [results, h, hp', hv', asAddr, run_loadVar_row w g t ty cs fr d hg hu hd hi]
theorem mkW_cell (w : World) (j : Nat) (v : Value) (h : rowsC[j]? = some v) : ((w.alloc (.cells #[.int .u8 0, .bool false, .bool false, .nilFunc, .nilFunc] 163)).alloc (.cells rowsC 188)).cell? ⟨w.heap.size + 1, j, none⟩ = some v :=
  (cell_of_row _ _ j rowsC 188 (0, 0) (two_at w _ _)).trans h
set_option maxRecDepth 100000 in
set_option maxHeartbeats 1600000 in
theorem find_out (op t : Int) (w : World) (ho : op < 0 ∨ 17 ≤ op) : Calls Tryz.prog 113 #[.int .i64 op, .int .i64 t] w fun e w' => e = .returned (.tuple #[.agg noRow, .bool false]) ∧ Below w.heap.size w w' := by
  have hz := zero57
  have h0 := size188
  have h1 := zero_size
  have h2 := rows_one
  have hR := hide (heap_setRow_same _ w.heap.size noRow (noRow) 163 (one_at w (.cells noRow 163) (.cells rowsC 188)))
  have hB := hide (below_setRow' (below2 w (.cells noRow 163) (.cells rowsC 188)) (noRow) (Nat.le_refl w.heap.size))
  rcases ho with ho | ho
  · go_enter Tryz.func113, Tryz.ntmps113
    go_wp2_with (first | ((with_reducible refine at_build (dst := some 23) ?_); go_must (refine wpList_buildTo rfl 188 _ rfl (some 23) rfl rowsC (by kernel_rfl) ?_)) | ((with_reducible refine at_store (ty := 188) ?_); go_must (refine wpList_store_rowTo rfl 188 _ _ rfl rfl _ rowsC rfl rfl 188 zeroC (two_at w _ _) h0 h1 h2 ?_; rw [two_set])) | ((with_reducible refine at_store (ty := 163) ?_); go_must (refine wpList_store_rowTo rfl 163 _ _ rfl rfl w.heap.size (noRow) rfl rfl 163 noRow (one_at w _ _) size163 rfl noRow_one ?_)))
    refine bodyPost_ret (v := .tuple #[.agg (noRow), .bool false]) ?_ rfl ⟨rfl, hB.out⟩
    exact results_row_tmp Tryz.results113 _ _ w.heap.size 163 (noRow) (0, 0) _ _ rfl rfl hR.out Tryz.underlying163 rfl size163
  · have i0 : ¬ op < 0 := by omega
    go_enter Tryz.func113, Tryz.ntmps113
    go_wp2_with (first | ((with_reducible refine at_build (dst := some 23) ?_); go_must (refine wpList_buildTo rfl 188 _ rfl (some 23) rfl rowsC (by kernel_rfl) ?_)) | ((with_reducible refine at_store (ty := 188) ?_); go_must (refine wpList_store_rowTo rfl 188 _ _ rfl rfl _ rowsC rfl rfl 188 zeroC (two_at w _ _) h0 h1 h2 ?_; rw [two_set])) | ((with_reducible refine at_store (ty := 163) ?_); go_must (refine wpList_store_rowTo rfl 163 _ _ rfl rfl w.heap.size (noRow) rfl rfl 163 noRow (one_at w _ _) size163 rfl noRow_one ?_)))
    refine bodyPost_ret (v := .tuple #[.agg (noRow), .bool false]) ?_ rfl ⟨rfl, hB.out⟩
    exact results_row_tmp Tryz.results113 _ _ w.heap.size 163 (noRow) (0, 0) _ _ rfl rfl hR.out Tryz.underlying163 rfl size163
set_option maxRecDepth 100000 in
set_option maxHeartbeats 1600000 in
theorem find_in (t : Int) (w : World) (k : Nat) (hk : k < 17) : Calls Tryz.prog 113 #[.int .i64 (k : Int), .int .i64 t] w fun e w' => e = .returned (.tuple #[.agg (if bitT (rowS k) t then rowV k else noRow), .bool (bitT (rowS k) t)]) ∧ Below w.heap.size w w' := by
  have c := has_any (rowS k) t (rowS_in k)
  have hz := zero57
  have h0 := size188
  have h1 := zero_size
  have h2 := rows_one
  have h3 := row_one k
  have i0 : (0 : Int) ≤ (k : Int) := by omega
  have i1 : (k : Int) < 17 := by omega
  obtain ⟨r0, r1, r2, r3, r4⟩ := rows_at k hk
  have q0 := mkW_cell w _ _ r0
  have q1 := mkW_cell w _ _ r1
  have q2 := mkW_cell w _ _ r2
  have q3 := mkW_cell w _ _ r3
  have q4 := mkW_cell w _ _ r4
  clear r0 r1 r2 r3 r4 hk
  cases hb : bitT (rowS k) t with
  | false =>
    rw [hb] at c
    clear hb
    have hR := hide (heap_setRow_same _ w.heap.size noRow (noRow) 163 (one_at w (.cells noRow 163) (.cells rowsC 188)))
    have hB := hide (below_setRow' (below2 w (.cells noRow 163) (.cells rowsC 188)) (noRow) (Nat.le_refl w.heap.size))
    go_enter Tryz.func113, Tryz.ntmps113
    go_wp2_with (first | ((with_reducible refine at_build (dst := some 23) ?_); go_must (refine wpList_buildTo rfl 188 _ rfl (some 23) rfl rowsC (by kernel_rfl) ?_)) | ((with_reducible refine at_store (ty := 188) ?_); go_must (refine wpList_store_rowTo rfl 188 _ _ rfl rfl _ rowsC rfl rfl 188 zeroC (two_at w _ _) h0 h1 h2 ?_; rw [two_set])))
    refine (c _).mono ?_
    rintro e w1 ⟨rfl, rfl⟩
    go_wp2_with (((with_reducible refine at_store (ty := 163) ?_); go_must (refine wpList_store_rowTo rfl 163 _ _ rfl rfl w.heap.size (noRow) rfl rfl 163 noRow (one_at w _ _) size163 rfl noRow_one ?_)))
    refine bodyPost_ret (v := .tuple #[.agg (noRow), .bool false]) ?_ rfl ⟨rfl, hB.out⟩
    exact results_row_tmp Tryz.results113 _ _ w.heap.size 163 (noRow) (0, 0) _ _ rfl rfl hR.out Tryz.underlying163 rfl size163
  | true =>
    rw [hb] at c
    clear hb
    have hR := hide (heap_setRow_same _ w.heap.size noRow (rowV k) 163 (one_at w (.cells noRow 163) (.cells rowsC 188)))
    have hB := hide (below_setRow' (below2 w (.cells noRow 163) (.cells rowsC 188)) (rowV k) (Nat.le_refl w.heap.size))
    go_enter Tryz.func113, Tryz.ntmps113
    go_wp2_with (first | ((with_reducible refine at_build (dst := some 23) ?_); go_must (refine wpList_buildTo rfl 188 _ rfl (some 23) rfl rowsC (by kernel_rfl) ?_)) | ((with_reducible refine at_store (ty := 188) ?_); go_must (refine wpList_store_rowTo rfl 188 _ _ rfl rfl _ rowsC rfl rfl 188 zeroC (two_at w _ _) h0 h1 h2 ?_; rw [two_set])))
    refine (c _).mono ?_
    rintro e w1 ⟨rfl, rfl⟩
    go_wp2_with (((with_reducible refine at_store (ty := 163) ?_); go_must (refine wpList_store_rowTo rfl 163 _ _ rfl rfl w.heap.size (rowV k) rfl rfl 163 noRow (one_at w _ _) size163 rfl (h3) ?_)))
    refine bodyPost_ret (v := .tuple #[.agg (rowV k), .bool true]) ?_ rfl ⟨rfl, hB.out⟩
    exact results_row_tmp Tryz.results113 _ _ w.heap.size 163 (rowV k) (0, 0) _ _ rfl rfl hR.out Tryz.underlying163 rfl size163
end Go.Proofs.YtmbgcpmapaedcaaGreatDoor.Four
