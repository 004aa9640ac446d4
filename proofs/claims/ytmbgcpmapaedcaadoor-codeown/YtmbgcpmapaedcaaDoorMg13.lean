/- Contracts of Go's library at this program, as the kit's tool lays them: numbers as text. | code: Show. -/
import Derived.Shelf.Strconv.Itoa0
import Derived.Shelf.Strconv.Itoa1
import Derived.Shelf.LaysM
import Derived.Shelf.Strconv.Itoa2
import Derived.Shelf.Strconv.Itoa3
import Derived.Shelf.Strconv.Itoa4
import Derived.Test.YtmbgcpmapaedcaaDoorProg
import Derived.Test.YtmbgcpmapaedcaaDoorMg9
import Derived.Lib.QuietBelow
import Derived.Lib.ItoaLen
namespace Go.Proofs
open Go.Shelf
def Tryd.laysM171_ren : Go.Shelf.Ren := ⟨fun | 171 => 13 | 243 => 29 | 246 => 30 | 283 => 50 | 284 => 51 | 285 => 52 | 286 => 53 | 129 => 64 | 317 => 63 | 318 => 65 | 319 => 66 | 320 => 67 | 337 => 89 | 338 => 90 | n => n, fun | 3 => 3 | 9 => 9 | 2 => 2 | 4 => 4 | 171 => 78 | 0 => 0 | 53 => 36 | 37 => 61 | 5 => 5 | 173 => 81 | 212 => 103 | 51 => 104 | 20 => 20 | 213 => 105 | 46 => 86 | 232 => 113 | 233 => 114 | n => n, fun | 17 => 2 | 18 => 3 | 19 => 4 | n => n⟩
theorem Tryd.laysM171 : Go.Proofs.LaysM.n171 Tryd.prog Tryd.laysM171_ren := {
  mixed := by kernel_rfl
  f129 := Tryd.func64.trans (congrArg some (by kernel_rfl))
  f171 := Tryd.func13.trans (congrArg some (by kernel_rfl))
  f243 := Tryd.func29.trans (congrArg some (by kernel_rfl))
  f246 := Tryd.func30.trans (congrArg some (by kernel_rfl))
  f283 := Tryd.func50.trans (congrArg some (by kernel_rfl))
  f284 := Tryd.func51.trans (congrArg some (by kernel_rfl))
  f285 := Tryd.func52.trans (congrArg some (by kernel_rfl))
  f286 := Tryd.func53.trans (congrArg some (by kernel_rfl))
  f317 := Tryd.func63.trans (congrArg some (by kernel_rfl))
  f318 := Tryd.func65.trans (congrArg some (by kernel_rfl))
  f319 := Tryd.func66.trans (congrArg some (by kernel_rfl))
  f320 := Tryd.func67.trans (congrArg some (by kernel_rfl))
  f337 := Tryd.func89.trans (congrArg some (by kernel_rfl))
  f338 := Tryd.func90.trans (congrArg some (by kernel_rfl))
  t0 := Tryd.underlying0
  a0 := Tryd.isAgg0
  z0 := Tryd.sizeOf0
  v0 := Tryd.zeroValue0
  t2 := Tryd.underlying2
  a2 := Tryd.isAgg2
  z2 := Tryd.sizeOf2
  v2 := Tryd.zeroValue2
  t3 := Tryd.underlying3
  a3 := Tryd.isAgg3
  z3 := Tryd.sizeOf3
  v3 := Tryd.zeroValue3
  t4 := Tryd.underlying4
  a4 := Tryd.isAgg4
  z4 := Tryd.sizeOf4
  v4 := Tryd.zeroValue4
  t5 := Tryd.underlying5
  a5 := Tryd.isAgg5
  z5 := Tryd.sizeOf5
  v5 := Tryd.zeroValue5
  t9 := Tryd.underlying9
  a9 := Tryd.isAgg9
  z9 := Tryd.sizeOf9
  v9 := Tryd.zeroValue9
  t20 := Tryd.underlying20
  a20 := Tryd.isAgg20
  z20 := Tryd.sizeOf20
  v20 := Tryd.zeroValue20
  t37 := Tryd.underlying61
  a37 := Tryd.isAgg61
  z37 := Tryd.sizeOf61
  v37 := Tryd.zeroValue61
  t46 := Tryd.underlying86
  a46 := Tryd.isAgg86
  z46 := Tryd.sizeOf86
  v46 := Tryd.zeroValue86
  t51 := Tryd.underlying104
  a51 := Tryd.isAgg104
  z51 := Tryd.sizeOf104
  v51 := Tryd.zeroValue104
  t53 := Tryd.underlying36
  a53 := Tryd.isAgg36
  z53 := Tryd.sizeOf36
  v53 := Tryd.zeroValue36
  t171 := Tryd.underlying78
  a171 := Tryd.isAgg78
  z171 := Tryd.sizeOf78
  v171 := Tryd.zeroValue78
  t173 := Tryd.underlying81
  a173 := Tryd.isAgg81
  z173 := Tryd.sizeOf81
  v173 := Tryd.zeroValue81
  t212 := Tryd.underlying103
  a212 := Tryd.isAgg103
  z212 := Tryd.sizeOf103
  v212 := Tryd.zeroValue103
  t213 := Tryd.underlying105
  a213 := Tryd.isAgg105
  z213 := Tryd.sizeOf105
  t232 := Tryd.underlying113
  a232 := Tryd.isAgg113
  z232 := Tryd.sizeOf113
  v232 := Tryd.zeroValue113
  t233 := Tryd.underlying114
  a233 := Tryd.isAgg114
  z233 := Tryd.sizeOf114
  v233 := Tryd.zeroValue114
  g17 := by kernel_rfl
  g18 := by kernel_rfl
  g19 := by kernel_rfl
  i0 := by kernel_rfl
  i2 := by kernel_rfl
  i3 := by kernel_rfl
  i4 := by kernel_rfl
  i5 := by kernel_rfl
  i9 := by kernel_rfl
  i20 := by kernel_rfl
  i37 := by kernel_rfl
  i46 := by kernel_rfl
  i51 := by kernel_rfl
  i53 := by kernel_rfl
  i171 := by kernel_rfl
  i173 := by kernel_rfl
  i212 := by kernel_rfl
  i232 := by kernel_rfl
  i233 := by kernel_rfl
  m17 := by kernel_rfl
  m18 := by kernel_rfl
  m19 := by kernel_rfl }
open Go.RowKit Go.Sort Go.Lib in
theorem Tryd.strconv_Itoa (n : Int) (h0 : -9223372036854775808 ≤ n) (h1 : n ≤ 9223372036854775807) (w : World) (htab : Lib.TabIs Tryd.prog w "internal/strconv.uint64pow10" .u64 Lib.pow10Tab) :
    Calls Tryd.prog 13 #[.int .i64 n] w fun e w' => e = .returned (.string ⟨(Lib.itoa n).toArray⟩) ∧ ∃ k os, w' = grow (w.drewN k) os := Any.strconv_Itoa Tryd.laysM171 n h0 h1 w htab
def Tryd.laysM173_ren : Go.Shelf.Ren := ⟨fun | 173 => 14 | 246 => 30 | 283 => 50 | 284 => 51 | 285 => 52 | 286 => 53 | 129 => 64 | 317 => 63 | 318 => 65 | 319 => 66 | 320 => 67 | 337 => 89 | 338 => 90 | n => n, fun | 2 => 2 | 3 => 3 | 9 => 9 | 4 => 4 | 171 => 78 | 0 => 0 | 53 => 36 | 37 => 61 | 5 => 5 | 173 => 81 | 212 => 103 | 51 => 104 | 20 => 20 | 213 => 105 | 46 => 86 | 232 => 113 | 233 => 114 | n => n, fun | 17 => 2 | 18 => 3 | 19 => 4 | n => n⟩
theorem Tryd.laysM173 : Go.Proofs.LaysM.n173 Tryd.prog Tryd.laysM173_ren := {
  mixed := by kernel_rfl
  f129 := Tryd.func64.trans (congrArg some (by kernel_rfl))
  f173 := Tryd.func14.trans (congrArg some (by kernel_rfl))
  f246 := Tryd.func30.trans (congrArg some (by kernel_rfl))
  f283 := Tryd.func50.trans (congrArg some (by kernel_rfl))
  f284 := Tryd.func51.trans (congrArg some (by kernel_rfl))
  f285 := Tryd.func52.trans (congrArg some (by kernel_rfl))
  f286 := Tryd.func53.trans (congrArg some (by kernel_rfl))
  f317 := Tryd.func63.trans (congrArg some (by kernel_rfl))
  f318 := Tryd.func65.trans (congrArg some (by kernel_rfl))
  f319 := Tryd.func66.trans (congrArg some (by kernel_rfl))
  f320 := Tryd.func67.trans (congrArg some (by kernel_rfl))
  f337 := Tryd.func89.trans (congrArg some (by kernel_rfl))
  f338 := Tryd.func90.trans (congrArg some (by kernel_rfl))
  t0 := Tryd.underlying0
  a0 := Tryd.isAgg0
  z0 := Tryd.sizeOf0
  v0 := Tryd.zeroValue0
  t2 := Tryd.underlying2
  a2 := Tryd.isAgg2
  z2 := Tryd.sizeOf2
  v2 := Tryd.zeroValue2
  t3 := Tryd.underlying3
  a3 := Tryd.isAgg3
  z3 := Tryd.sizeOf3
  v3 := Tryd.zeroValue3
  t4 := Tryd.underlying4
  a4 := Tryd.isAgg4
  z4 := Tryd.sizeOf4
  v4 := Tryd.zeroValue4
  t5 := Tryd.underlying5
  a5 := Tryd.isAgg5
  z5 := Tryd.sizeOf5
  v5 := Tryd.zeroValue5
  t9 := Tryd.underlying9
  a9 := Tryd.isAgg9
  z9 := Tryd.sizeOf9
  v9 := Tryd.zeroValue9
  t20 := Tryd.underlying20
  a20 := Tryd.isAgg20
  z20 := Tryd.sizeOf20
  v20 := Tryd.zeroValue20
  t37 := Tryd.underlying61
  a37 := Tryd.isAgg61
  z37 := Tryd.sizeOf61
  v37 := Tryd.zeroValue61
  t46 := Tryd.underlying86
  a46 := Tryd.isAgg86
  z46 := Tryd.sizeOf86
  v46 := Tryd.zeroValue86
  t51 := Tryd.underlying104
  a51 := Tryd.isAgg104
  z51 := Tryd.sizeOf104
  v51 := Tryd.zeroValue104
  t53 := Tryd.underlying36
  a53 := Tryd.isAgg36
  z53 := Tryd.sizeOf36
  v53 := Tryd.zeroValue36
  t171 := Tryd.underlying78
  a171 := Tryd.isAgg78
  z171 := Tryd.sizeOf78
  v171 := Tryd.zeroValue78
  t173 := Tryd.underlying81
  a173 := Tryd.isAgg81
  z173 := Tryd.sizeOf81
  v173 := Tryd.zeroValue81
  t212 := Tryd.underlying103
  a212 := Tryd.isAgg103
  z212 := Tryd.sizeOf103
  v212 := Tryd.zeroValue103
  t213 := Tryd.underlying105
  a213 := Tryd.isAgg105
  z213 := Tryd.sizeOf105
  t232 := Tryd.underlying113
  a232 := Tryd.isAgg113
  z232 := Tryd.sizeOf113
  v232 := Tryd.zeroValue113
  t233 := Tryd.underlying114
  a233 := Tryd.isAgg114
  z233 := Tryd.sizeOf114
  v233 := Tryd.zeroValue114
  g17 := by kernel_rfl
  g18 := by kernel_rfl
  g19 := by kernel_rfl
  i0 := by kernel_rfl
  i2 := by kernel_rfl
  i3 := by kernel_rfl
  i4 := by kernel_rfl
  i5 := by kernel_rfl
  i9 := by kernel_rfl
  i20 := by kernel_rfl
  i37 := by kernel_rfl
  i46 := by kernel_rfl
  i51 := by kernel_rfl
  i53 := by kernel_rfl
  i171 := by kernel_rfl
  i173 := by kernel_rfl
  i212 := by kernel_rfl
  i232 := by kernel_rfl
  i233 := by kernel_rfl
  m17 := by kernel_rfl
  m18 := by kernel_rfl
  m19 := by kernel_rfl }
open Go.RowKit Go.Sort Go.Lib in
theorem Tryd.strconv_FormatInt_10 (n : Int) (h0 : -9223372036854775808 ≤ n) (h1 : n ≤ 9223372036854775807) (w : World) (htab : Lib.TabIs Tryd.prog w "internal/strconv.uint64pow10" .u64 Lib.pow10Tab) :
    Calls Tryd.prog 14 #[.int .i64 n, .int .i64 10] w fun e w' => e = .returned (.string ⟨(Lib.itoa n).toArray⟩) ∧ ∃ k os, w' = grow (w.drewN k) os := Any.strconv_FormatInt_10 Tryd.laysM173 n h0 h1 w htab
end Go.Proofs
namespace Go.Proofs.YtmbgcpmapaedcaaDoor
open Go.RowKit Go.Sort
/-- the table of powers of ten -/
def Pow (w : World) : Prop := Lib.TabIs Tryd.prog w "internal/strconv.uint64pow10" .u64 Lib.pow10Tab
theorem Pow.on {w w' : World} (h : Pow w) (hb : Below w.heap.size w w') : Pow w' := Go.Joins.tab_stays (g := 2) (by kernel_rfl) h hb (Nat.le_refl _)
theorem grow_below (w : World) (k : Nat) (os : Array Obj) : Below w.heap.size w (grow (w.drewN k) os) := by
  refine ⟨rfl, rfl, rfl, ?_, fun b hb => ?_⟩
  · show w.heap.size ≤ (w.heap ++ os).size
    rw [Array.size_append]; omega
  · show (w.heap ++ os)[b]? = w.heap[b]?
    rw [Array.getElem?_append_left hb]
theorem itoa_any (n : Int) (h0 : -9223372036854775808 ≤ n) (h1 : n ≤ 9223372036854775807) (w : World) (hp : Pow w) : Calls Tryd.prog 13 #[.int .i64 n] w fun e w' => e = .returned (.string ⟨(Lib.itoa n).toArray⟩) ∧ Below w.heap.size w w' :=
  (Tryd.strconv_Itoa n h0 h1 w hp).mono fun e w' ⟨he, k, os, hw⟩ => ⟨he, by rw [hw]; exact grow_below w k os⟩
theorem format_any (n : Int) (h0 : -9223372036854775808 ≤ n) (h1 : n ≤ 9223372036854775807) (w : World) (hp : Pow w) : Calls Tryd.prog 14 #[.int .i64 n, .int .i64 10] w fun e w' => e = .returned (.string ⟨(Lib.itoa n).toArray⟩) ∧ Below w.heap.size w w' :=
  (Tryd.strconv_FormatInt_10 n h0 h1 w hp).mono fun e w' ⟨he, k, os, hw⟩ => ⟨he, by rw [hw]; exact grow_below w k os⟩
theorem app_text (a b : List UInt8) : (⟨a.toArray⟩ ++ ⟨b.toArray⟩ : ByteArray) = ⟨(a ++ b).toArray⟩ := by
  apply ByteArray.ext
  rw [ByteArray.data_append]
  simp
theorem str_add (a b : ByteArray) (h : a.size + b.size ≤ 1000000) : Op.stringOp .add a b = pure (.string (a ++ b)) := by
  unfold Op.stringOp
  simp only []
  rw [if_neg]
  have : IntKind.i64.max = 9223372036854775807 := by decide
  omega
theorem text_add (a b : List UInt8) (h : a.length + b.length ≤ 1000000) : Op.stringOp .add ⟨a.toArray⟩ ⟨b.toArray⟩ = pure (.string ⟨(a ++ b).toArray⟩) := by
  rw [str_add _ _ (by show a.toArray.size + b.toArray.size ≤ _; simpa using h), app_text]
set_option maxRecDepth 100000 in
set_option maxHeartbeats 3200000 in
theorem show_core (o a b n : Int) (S : ByteArray) (h : Int) (F : Value) (hF : F.oneCell' = true) (th : Bool) (N A B C T1 T2 T3 T4 T5 T6 : ByteArray) (hN : N = if th then S else ⟨#[63]⟩) (w : World) (hp : Pow w)
    (c39 : ∀ W, Calls Tryd.prog 12 #[.int .i64 o] W fun e w' => e = .returned (.tuple #[.agg #[.string S, .int .u8 h, F], .bool th]) ∧ Below W.heap.size W w')
    (cA : ∀ W, Pow W → Calls Tryd.prog 13 #[.int .i64 a] W fun e w' => e = .returned (.string A) ∧ Below W.heap.size W w')
    (cB : ∀ W, Pow W → Calls Tryd.prog 13 #[.int .i64 b] W fun e w' => e = .returned (.string B) ∧ Below W.heap.size W w')
    (cC : ∀ W, Pow W → Calls Tryd.prog 14 #[.int .i64 n, .int .i64 10] W fun e w' => e = .returned (.string C) ∧ Below W.heap.size W w')
    (t1 : Op.stringOp .add N ⟨#[32]⟩ = pure (.string T1)) (t2 : Op.stringOp .add T1 A = pure (.string T2)) (t3 : Op.stringOp .add T2 ⟨#[32]⟩ = pure (.string T3)) (t4 : Op.stringOp .add T3 B = pure (.string T4)) (t5 : Op.stringOp .add T4 ⟨#[32]⟩ = pure (.string T5)) (t6 : Op.stringOp .add T5 C = pure (.string T6)) :
    Calls Tryd.prog 6 #[.agg #[.int .i64 o, .int .i64 a, .int .i64 b, .int .i64 n]] w fun e w' => e = .returned (.string T6) ∧ Below w.heap.size w w' := by
  have ho : (#[.string S, .int .u8 h, F] : Array Value).all (·.oneCell') = true := by
    rw [← Array.all_toList]
    show ((Value.string S).oneCell' && ((Value.int .u8 h).oneCell' && (F.oneCell' && true))) = true
    rw [hF]; rfl
  have HB1 : Hid (∀ X, Below w.heap.size w (w.alloc X)) := fun X => (Below.refl _ _).alloc (Nat.le_refl _) _
  have HP := hide hp
  have CA := hide cA
  have CB := hide cB
  have CC := hide cC
  clear hp cA cB cC hF
  cases th
  all_goals
    first | (have e := hN.trans (if_pos rfl); rw [e] at t1; clear e) | (have e := hN.trans (if_neg (by simp)); rw [e] at t1; clear e)
    clear hN
    go_enter Tryd.func6, Tryd.ntmps6
    go_wp2_with (first | (go_at_call 12; go_loud (refine (c39 _).mono ?_; rintro e w1 ⟨rfl, b1⟩; have B1 := hide ((HB1.out _).trans (b1.mono (by simp))); have r1 := (b1.cell (p := ⟨w.heap.size, 1, none⟩) (by simp)); have r2 := (b1.cell (p := ⟨w.heap.size, 2, none⟩) (by simp)); have r3 := (b1.cell (p := ⟨w.heap.size, 3, none⟩) (by simp)); have L1 : w.heap.size < w1.heap.size := (by have := b1.size; simp at this; omega); clear b1; simp [go_sem] at r1 r2 r3)) | ((with_reducible refine Four.at_store (ty := 44) ?_); go_must (refine wpList_store_rowTo rfl 44 _ _ rfl rfl _ #[.string S, .int .u8 h, F] rfl rfl 44 ruNone (heap_alloc_new _ _) size44 rfl ho ?_; rw [World.setRow_alloc_new])))
    have s1 := (World.cell?_alloc_lt w1 (.cells #[.string S, .int .u8 h, F] 44) ⟨w.heap.size, 1, none⟩ (by show w.heap.size < _; omega)).trans r1
    have s2 := (World.cell?_alloc_lt w1 (.cells #[.string S, .int .u8 h, F] 44) ⟨w.heap.size, 2, none⟩ (by show w.heap.size < _; omega)).trans r2
    have s3 := (World.cell?_alloc_lt w1 (.cells #[.string S, .int .u8 h, F] 44) ⟨w.heap.size, 3, none⟩ (by show w.heap.size < _; omega)).trans r3
    have B2 := hide (B1.out.alloc B1.out.size (.cells #[.string S, .int .u8 h, F] 44))
    clear r1 r2 r3 c39 ho L1
    generalize w1.alloc (.cells #[.string S, .int .u8 h, F] 44) = W0 at *
    have y1 : ∀ dd os, (grow (redrawn W0 dd) os).cell? ⟨w.heap.size, 1, none⟩ = some (.int .i64 a) := cell_regrown s1
    have y2 : ∀ dd os, (grow (redrawn W0 dd) os).cell? ⟨w.heap.size, 2, none⟩ = some (.int .i64 b) := cell_regrown s2
    have y3 : ∀ dd os, (grow (redrawn W0 dd) os).cell? ⟨w.heap.size, 3, none⟩ = some (.int .i64 n) := cell_regrown s3
    have PW : Hid (∀ dd os, Pow (grow (redrawn W0 dd) os)) := fun dd os => HP.out.on (B2.out.trans ((below_regrown W0 dd os).mono B2.out.size))
    have x1 : ∀ dd os, Calls Tryd.prog 13 #[.int .i64 a] (grow (redrawn W0 dd) os) fun e w2 => e = .returned (.string A) ∧ ∃ q : Regrown, w2 = grow (redrawn W0 q.d) q.os := fun dd os => Calls.regrown_of (CA.out _ (PW.out _ _))
    have x2 : ∀ dd os, Calls Tryd.prog 13 #[.int .i64 b] (grow (redrawn W0 dd) os) fun e w2 => e = .returned (.string B) ∧ ∃ q : Regrown, w2 = grow (redrawn W0 q.d) q.os := fun dd os => Calls.regrown_of (CB.out _ (PW.out _ _))
    have x3 : ∀ dd os, Calls Tryd.prog 14 #[.int .i64 n, .int .i64 10] (grow (redrawn W0 dd) os) fun e w2 => e = .returned (.string C) ∧ ∃ q : Regrown, w2 = grow (redrawn W0 q.d) q.os := fun dd os => Calls.regrown_of (CC.out _ (PW.out _ _))
    have HBR : Hid (∀ dd os, Below w.heap.size w (grow (redrawn W0 dd) os)) := fun dd os => B2.out.trans ((below_regrown W0 dd os).mono B2.out.size)
    clear s1 s2 s3 B1 B2 PW HP CA CB CC
    refine wp_region_quiet_below (by kernel_rfl) (by kernel_rfl) ?_
    repeat (go_big_quiet_step (first | (go_at_call 13; first | (with_reducible exact x1 _ _) | (with_reducible exact x2 _ _)) | (go_at_call 14; with_reducible exact x3 _ _)))
    refine wpQuiet_nil ?_
    intro _ hw'
    obtain ⟨⟨dq, osq⟩, hw''⟩ := hw'
    subst hw''
    go_wp2
    go_ret
    exact ⟨rfl, HBR.out _ _⟩
/-- how an instruction is shown -/
def nmP (op : Int) : List UInt8 := if 1 ≤ op ∧ op ≤ 12 then opName op else [63]
def shI (i : Ins) : List UInt8 := ((((nmP i.op ++ [32] ++ Lib.itoa i.a) ++ [32]) ++ Lib.itoa i.b) ++ [32]) ++ Lib.itoa i.n
theorem nmP_len (op : Int) : (nmP op).length ≤ 6 := by
  unfold nmP
  split
  · unfold opName
    repeat (split; · decide)
    decide
  · decide
/-- an instruction of a machine -/
structure InB (i : Ins) : Prop where
  a0 : -9223372036854775808 ≤ i.a
  a1 : i.a ≤ 9223372036854775807
  b0 : -9223372036854775808 ≤ i.b
  b1 : i.b ≤ 9223372036854775807
  n0 : -9223372036854775808 ≤ i.n
  n1 : i.n ≤ 9223372036854775807
theorem show_any (i : Ins) (hi : InB i) (w : World) (hp : Pow w) : Calls Tryd.prog 6 #[inA i] w fun e w' => e = .returned (.string ⟨(shI i).toArray⟩) ∧ Below w.heap.size w w' := by
  have la := Lib.itoa_length_le i.a hi.a0 hi.a1
  have lb := Lib.itoa_length_le i.b hi.b0 hi.b1
  have ln := nmP_len i.op
  have lc := Lib.itoa_length_le i.n hi.n0 hi.n1
  have t1 := text_add (nmP i.op) [32] (by simp; omega)
  have t2 := text_add (nmP i.op ++ [32]) (Lib.itoa i.a) (by simp; omega)
  have t3 := text_add (nmP i.op ++ [32] ++ Lib.itoa i.a) [32] (by simp; omega)
  have t4 := text_add ((nmP i.op ++ [32] ++ Lib.itoa i.a) ++ [32]) (Lib.itoa i.b) (by simp; omega)
  have t5 := text_add (((nmP i.op ++ [32] ++ Lib.itoa i.a) ++ [32]) ++ Lib.itoa i.b) [32] (by simp; omega)
  have t6 := text_add ((((nmP i.op ++ [32] ++ Lib.itoa i.a) ++ [32]) ++ Lib.itoa i.b) ++ [32]) (Lib.itoa i.n) (by simp; omega)
  by_cases ho : 1 ≤ i.op ∧ i.op ≤ 12
  · obtain ⟨k, hk⟩ : ∃ k : Nat, i.op = (k : Int) := ⟨i.op.toNat, by omega⟩
    refine show_core i.op i.a i.b i.n ⟨(opName i.op).toArray⟩ (hasN i.op : Int) (.func (.func (opFn i.op)) #[] #[]) rfl true ⟨(nmP i.op).toArray⟩ _ _ _ _ _ _ _ _ _ ?_ w hp (fun W => ?_) (fun W h => itoa_any i.a hi.a0 hi.a1 W h) (fun W h => itoa_any i.b hi.b0 hi.b1 W h) (fun W h => format_any i.n hi.n0 hi.n1 W h) t1 t2 t3 t4 t5 t6
    · unfold nmP; rw [if_pos ho]; rfl
    · rw [hk]; exact rule_in k (by omega) (by omega) W
  · refine show_core i.op i.a i.b i.n ⟨#[]⟩ 0 .nilFunc rfl false ⟨(nmP i.op).toArray⟩ _ _ _ _ _ _ _ _ _ ?_ w hp (fun W => rule_out i.op W ho) (fun W h => itoa_any i.a hi.a0 hi.a1 W h) (fun W h => itoa_any i.b hi.b0 hi.b1 W h) (fun W h => format_any i.n hi.n0 hi.n1 W h) t1 t2 t3 t4 t5 t6
    unfold nmP; rw [if_neg ho]; rfl
end Go.Proofs.YtmbgcpmapaedcaaDoor
