/- Contracts of Go's library at this program, as the kit's tool lays them: numbers as text. | code: Show. -/
import Derived.Shelf.Strconv.Itoa0
import Derived.Shelf.Strconv.Itoa1
import Derived.Shelf.LaysM
import Derived.Shelf.Strconv.Itoa2
import Derived.Shelf.Strconv.Itoa3
import Derived.Shelf.Strconv.Itoa4
import Derived.Test.YtmbgcpmapaedcaaGreatDoorProg
import Derived.Test.YtmbgcpmapaedcaaGreatDoorMg9
import Derived.Lib.QuietBelow
import Derived.Lib.ItoaLen
namespace Go.Proofs
open Go.Shelf
def Tryz.laysM171_ren : Go.Shelf.Ren := ⟨fun | 171 => 58 | 243 => 84 | 246 => 85 | 283 => 100 | 284 => 101 | 285 => 102 | 286 => 103 | 129 => 117 | 317 => 116 | 318 => 118 | 319 => 119 | 320 => 120 | 337 => 143 | 338 => 144 | n => n, fun | 3 => 3 | 9 => 9 | 2 => 2 | 4 => 4 | 171 => 139 | 0 => 0 | 53 => 86 | 37 => 78 | 5 => 5 | 173 => 142 | 212 => 168 | 51 => 169 | 20 => 20 | 213 => 170 | 46 => 112 | 232 => 191 | 233 => 192 | n => n, fun | 17 => 3 | 18 => 4 | 19 => 5 | n => n⟩
theorem Tryz.laysM171 : Go.Proofs.LaysM.n171 Tryz.prog Tryz.laysM171_ren := {
  mixed := by kernel_rfl
  f129 := Tryz.func117.trans (congrArg some (by kernel_rfl))
  f171 := Tryz.func58.trans (congrArg some (by kernel_rfl))
  f243 := Tryz.func84.trans (congrArg some (by kernel_rfl))
  f246 := Tryz.func85.trans (congrArg some (by kernel_rfl))
  f283 := Tryz.func100.trans (congrArg some (by kernel_rfl))
  f284 := Tryz.func101.trans (congrArg some (by kernel_rfl))
  f285 := Tryz.func102.trans (congrArg some (by kernel_rfl))
  f286 := Tryz.func103.trans (congrArg some (by kernel_rfl))
  f317 := Tryz.func116.trans (congrArg some (by kernel_rfl))
  f318 := Tryz.func118.trans (congrArg some (by kernel_rfl))
  f319 := Tryz.func119.trans (congrArg some (by kernel_rfl))
  f320 := Tryz.func120.trans (congrArg some (by kernel_rfl))
  f337 := Tryz.func143.trans (congrArg some (by kernel_rfl))
  f338 := Tryz.func144.trans (congrArg some (by kernel_rfl))
  t0 := Tryz.underlying0
  a0 := Tryz.isAgg0
  z0 := Tryz.sizeOf0
  v0 := Tryz.zeroValue0
  t2 := Tryz.underlying2
  a2 := Tryz.isAgg2
  z2 := Tryz.sizeOf2
  v2 := Tryz.zeroValue2
  t3 := Tryz.underlying3
  a3 := Tryz.isAgg3
  z3 := Tryz.sizeOf3
  v3 := Tryz.zeroValue3
  t4 := Tryz.underlying4
  a4 := Tryz.isAgg4
  z4 := Tryz.sizeOf4
  v4 := Tryz.zeroValue4
  t5 := Tryz.underlying5
  a5 := Tryz.isAgg5
  z5 := Tryz.sizeOf5
  v5 := Tryz.zeroValue5
  t9 := Tryz.underlying9
  a9 := Tryz.isAgg9
  z9 := Tryz.sizeOf9
  v9 := Tryz.zeroValue9
  t20 := Tryz.underlying20
  a20 := Tryz.isAgg20
  z20 := Tryz.sizeOf20
  v20 := Tryz.zeroValue20
  t37 := Tryz.underlying78
  a37 := Tryz.isAgg78
  z37 := Tryz.sizeOf78
  v37 := Tryz.zeroValue78
  t46 := Tryz.underlying112
  a46 := Tryz.isAgg112
  z46 := Tryz.sizeOf112
  v46 := Tryz.zeroValue112
  t51 := Tryz.underlying169
  a51 := Tryz.isAgg169
  z51 := Tryz.sizeOf169
  v51 := Tryz.zeroValue169
  t53 := Tryz.underlying86
  a53 := Tryz.isAgg86
  z53 := Tryz.sizeOf86
  v53 := Tryz.zeroValue86
  t171 := Tryz.underlying139
  a171 := Tryz.isAgg139
  z171 := Tryz.sizeOf139
  v171 := Tryz.zeroValue139
  t173 := Tryz.underlying142
  a173 := Tryz.isAgg142
  z173 := Tryz.sizeOf142
  v173 := Tryz.zeroValue142
  t212 := Tryz.underlying168
  a212 := Tryz.isAgg168
  z212 := Tryz.sizeOf168
  v212 := Tryz.zeroValue168
  t213 := Tryz.underlying170
  a213 := Tryz.isAgg170
  z213 := Tryz.sizeOf170
  t232 := Tryz.underlying191
  a232 := Tryz.isAgg191
  z232 := Tryz.sizeOf191
  v232 := Tryz.zeroValue191
  t233 := Tryz.underlying192
  a233 := Tryz.isAgg192
  z233 := Tryz.sizeOf192
  v233 := Tryz.zeroValue192
  g17 := by kernel_rfl
  g18 := by kernel_rfl
  g19 := by kernel_rfl
  i0 := by kernel_rfl
  i2 := by kernel_rfl
  i3 := by kernel_rfl
  i4 := by kernel_rfl
  i5 := by kernel_rfl
  i9 := by kernel_rfl
  i20 := by kernel_rfl
  i37 := by kernel_rfl
  i46 := by kernel_rfl
  i51 := by kernel_rfl
  i53 := by kernel_rfl
  i171 := by kernel_rfl
  i173 := by kernel_rfl
  i212 := by kernel_rfl
  i232 := by kernel_rfl
  i233 := by kernel_rfl
  m17 := by kernel_rfl
  m18 := by kernel_rfl
  m19 := by kernel_rfl }
open Go.RowKit Go.Sort Go.Lib in
theorem Tryz.strconv_Itoa (n : Int) (h0 : -9223372036854775808 ≤ n) (h1 : n ≤ 9223372036854775807) (w : World) (htab : Lib.TabIs Tryz.prog w "internal/strconv.uint64pow10" .u64 Lib.pow10Tab) :
    Calls Tryz.prog 58 #[.int .i64 n] w fun e w' => e = .returned (.string ⟨(Lib.itoa n).toArray⟩) ∧ ∃ k os, w' = grow (w.drewN k) os := Any.strconv_Itoa Tryz.laysM171 n h0 h1 w htab
def Tryz.laysM173_ren : Go.Shelf.Ren := ⟨fun | 173 => 59 | 246 => 85 | 283 => 100 | 284 => 101 | 285 => 102 | 286 => 103 | 129 => 117 | 317 => 116 | 318 => 118 | 319 => 119 | 320 => 120 | 337 => 143 | 338 => 144 | n => n, fun | 2 => 2 | 3 => 3 | 9 => 9 | 4 => 4 | 171 => 139 | 0 => 0 | 53 => 86 | 37 => 78 | 5 => 5 | 173 => 142 | 212 => 168 | 51 => 169 | 20 => 20 | 213 => 170 | 46 => 112 | 232 => 191 | 233 => 192 | n => n, fun | 17 => 3 | 18 => 4 | 19 => 5 | n => n⟩
theorem Tryz.laysM173 : Go.Proofs.LaysM.n173 Tryz.prog Tryz.laysM173_ren := {
  mixed := by kernel_rfl
  f129 := Tryz.func117.trans (congrArg some (by kernel_rfl))
  f173 := Tryz.func59.trans (congrArg some (by kernel_rfl))
  f246 := Tryz.func85.trans (congrArg some (by kernel_rfl))
  f283 := Tryz.func100.trans (congrArg some (by kernel_rfl))
  f284 := Tryz.func101.trans (congrArg some (by kernel_rfl))
  f285 := Tryz.func102.trans (congrArg some (by kernel_rfl))
  f286 := Tryz.func103.trans (congrArg some (by kernel_rfl))
  f317 := Tryz.func116.trans (congrArg some (by kernel_rfl))
  f318 := Tryz.func118.trans (congrArg some (by kernel_rfl))
  f319 := Tryz.func119.trans (congrArg some (by kernel_rfl))
  f320 := Tryz.func120.trans (congrArg some (by kernel_rfl))
  f337 := Tryz.func143.trans (congrArg some (by kernel_rfl))
  f338 := Tryz.func144.trans (congrArg some (by kernel_rfl))
  t0 := Tryz.underlying0
  a0 := Tryz.isAgg0
  z0 := Tryz.sizeOf0
  v0 := Tryz.zeroValue0
  t2 := Tryz.underlying2
  a2 := Tryz.isAgg2
  z2 := Tryz.sizeOf2
  v2 := Tryz.zeroValue2
  t3 := Tryz.underlying3
  a3 := Tryz.isAgg3
  z3 := Tryz.sizeOf3
  v3 := Tryz.zeroValue3
  t4 := Tryz.underlying4
  a4 := Tryz.isAgg4
  z4 := Tryz.sizeOf4
  v4 := Tryz.zeroValue4
  t5 := Tryz.underlying5
  a5 := Tryz.isAgg5
  z5 := Tryz.sizeOf5
  v5 := Tryz.zeroValue5
  t9 := Tryz.underlying9
  a9 := Tryz.isAgg9
  z9 := Tryz.sizeOf9
  v9 := Tryz.zeroValue9
  t20 := Tryz.underlying20
  a20 := Tryz.isAgg20
  z20 := Tryz.sizeOf20
  v20 := Tryz.zeroValue20
  t37 := Tryz.underlying78
  a37 := Tryz.isAgg78
  z37 := Tryz.sizeOf78
  v37 := Tryz.zeroValue78
  t46 := Tryz.underlying112
  a46 := Tryz.isAgg112
  z46 := Tryz.sizeOf112
  v46 := Tryz.zeroValue112
  t51 := Tryz.underlying169
  a51 := Tryz.isAgg169
  z51 := Tryz.sizeOf169
  v51 := Tryz.zeroValue169
  t53 := Tryz.underlying86
  a53 := Tryz.isAgg86
  z53 := Tryz.sizeOf86
  v53 := Tryz.zeroValue86
  t171 := Tryz.underlying139
  a171 := Tryz.isAgg139
  z171 := Tryz.sizeOf139
  v171 := Tryz.zeroValue139
  t173 := Tryz.underlying142
  a173 := Tryz.isAgg142
  z173 := Tryz.sizeOf142
  v173 := Tryz.zeroValue142
  t212 := Tryz.underlying168
  a212 := Tryz.isAgg168
  z212 := Tryz.sizeOf168
  v212 := Tryz.zeroValue168
  t213 := Tryz.underlying170
  a213 := Tryz.isAgg170
  z213 := Tryz.sizeOf170
  t232 := Tryz.underlying191
  a232 := Tryz.isAgg191
  z232 := Tryz.sizeOf191
  v232 := Tryz.zeroValue191
  t233 := Tryz.underlying192
  a233 := Tryz.isAgg192
  z233 := Tryz.sizeOf192
  v233 := Tryz.zeroValue192
  g17 := by kernel_rfl
  g18 := by kernel_rfl
  g19 := by kernel_rfl
  i0 := by kernel_rfl
  i2 := by kernel_rfl
  i3 := by kernel_rfl
  i4 := by kernel_rfl
  i5 := by kernel_rfl
  i9 := by kernel_rfl
  i20 := by kernel_rfl
  i37 := by kernel_rfl
  i46 := by kernel_rfl
  i51 := by kernel_rfl
  i53 := by kernel_rfl
  i171 := by kernel_rfl
  i173 := by kernel_rfl
  i212 := by kernel_rfl
  i232 := by kernel_rfl
  i233 := by kernel_rfl
  m17 := by kernel_rfl
  m18 := by kernel_rfl
  m19 := by kernel_rfl }
open Go.RowKit Go.Sort Go.Lib in
theorem Tryz.strconv_FormatInt_10 (n : Int) (h0 : -9223372036854775808 ≤ n) (h1 : n ≤ 9223372036854775807) (w : World) (htab : Lib.TabIs Tryz.prog w "internal/strconv.uint64pow10" .u64 Lib.pow10Tab) :
    Calls Tryz.prog 59 #[.int .i64 n, .int .i64 10] w fun e w' => e = .returned (.string ⟨(Lib.itoa n).toArray⟩) ∧ ∃ k os, w' = grow (w.drewN k) os := Any.strconv_FormatInt_10 Tryz.laysM173 n h0 h1 w htab
end Go.Proofs
namespace Go.Proofs.YtmbgcpmapaedcaaGreatDoor
open Go.RowKit Go.Sort
/-- the table of powers of ten -/
def Pow (w : World) : Prop := Lib.TabIs Tryz.prog w "internal/strconv.uint64pow10" .u64 Lib.pow10Tab
theorem Pow.on {w w' : World} (h : Pow w) (hb : Below w.heap.size w w') : Pow w' := Go.Joins.tab_stays (g := 3) (by kernel_rfl) h hb (Nat.le_refl _)
theorem grow_below (w : World) (k : Nat) (os : Array Obj) : Below w.heap.size w (grow (w.drewN k) os) := by
  refine ⟨rfl, rfl, rfl, ?_, fun b hb => ?_⟩
  · show w.heap.size ≤ (w.heap ++ os).size
    rw [Array.size_append]; omega
  · show (w.heap ++ os)[b]? = w.heap[b]?
    rw [Array.getElem?_append_left hb]
theorem itoa_any (n : Int) (h0 : -9223372036854775808 ≤ n) (h1 : n ≤ 9223372036854775807) (w : World) (hp : Pow w) : Calls Tryz.prog 58 #[.int .i64 n] w fun e w' => e = .returned (.string ⟨(Lib.itoa n).toArray⟩) ∧ Below w.heap.size w w' :=
  (Tryz.strconv_Itoa n h0 h1 w hp).mono fun e w' ⟨he, k, os, hw⟩ => ⟨he, by rw [hw]; exact grow_below w k os⟩
theorem format_any (n : Int) (h0 : -9223372036854775808 ≤ n) (h1 : n ≤ 9223372036854775807) (w : World) (hp : Pow w) : Calls Tryz.prog 59 #[.int .i64 n, .int .i64 10] w fun e w' => e = .returned (.string ⟨(Lib.itoa n).toArray⟩) ∧ Below w.heap.size w w' :=
  (Tryz.strconv_FormatInt_10 n h0 h1 w hp).mono fun e w' ⟨he, k, os, hw⟩ => ⟨he, by rw [hw]; exact grow_below w k os⟩
theorem app_text (a b : List UInt8) : (⟨a.toArray⟩ ++ ⟨b.toArray⟩ : ByteArray) = ⟨(a ++ b).toArray⟩ := by
  apply ByteArray.ext
  rw [ByteArray.data_append]
  simp
theorem str_add (a b : ByteArray) (h : a.size + b.size ≤ 1000000) : Op.stringOp .add a b = pure (.string (a ++ b)) := by
  unfold Op.stringOp
  simp only []
  rw [if_neg]
  have : IntKind.i64.max = 9223372036854775807 := by decide
  omega
theorem text_add (a b : List UInt8) (h : a.length + b.length ≤ 1000000) : Op.stringOp .add ⟨a.toArray⟩ ⟨b.toArray⟩ = pure (.string ⟨(a ++ b).toArray⟩) := by
  rw [str_add _ _ (by show a.toArray.size + b.toArray.size ≤ _; simpa using h), app_text]
set_option maxRecDepth 100000 in
set_option maxHeartbeats 3200000 in
theorem show_core (o a b n : Int) (S : ByteArray) (h : Int) (F : Value) (hF : F.oneCell' = true) (th : Bool) (N A B C T1 T2 T3 T4 T5 T6 : ByteArray) (hN : N = if th then S else ⟨#[63]⟩) (w : World) (hp : Pow w)
    (c39 : ∀ W, Calls Tryz.prog 39 #[.int .i64 o] W fun e w' => e = .returned (.tuple #[.agg #[.string S, .int .u8 h, F], .bool th]) ∧ Below W.heap.size W w')
    (cA : ∀ W, Pow W → Calls Tryz.prog 58 #[.int .i64 a] W fun e w' => e = .returned (.string A) ∧ Below W.heap.size W w')
    (cB : ∀ W, Pow W → Calls Tryz.prog 58 #[.int .i64 b] W fun e w' => e = .returned (.string B) ∧ Below W.heap.size W w')
    (cC : ∀ W, Pow W → Calls Tryz.prog 59 #[.int .i64 n, .int .i64 10] W fun e w' => e = .returned (.string C) ∧ Below W.heap.size W w')
    (t1 : Op.stringOp .add N ⟨#[32]⟩ = pure (.string T1)) (t2 : Op.stringOp .add T1 A = pure (.string T2)) (t3 : Op.stringOp .add T2 ⟨#[32]⟩ = pure (.string T3)) (t4 : Op.stringOp .add T3 B = pure (.string T4)) (t5 : Op.stringOp .add T4 ⟨#[32]⟩ = pure (.string T5)) (t6 : Op.stringOp .add T5 C = pure (.string T6)) :
    Calls Tryz.prog 28 #[.agg #[.int .i64 o, .int .i64 a, .int .i64 b, .int .i64 n]] w fun e w' => e = .returned (.string T6) ∧ Below w.heap.size w w' := by
  have ho : (#[.string S, .int .u8 h, F] : Array Value).all (·.oneCell') = true := by
    rw [← Array.all_toList]
    show ((Value.string S).oneCell' && ((Value.int .u8 h).oneCell' && (F.oneCell' && true))) = true
    rw [hF]; rfl
  have HB1 : Hid (∀ X, Below w.heap.size w (w.alloc X)) := fun X => (Below.refl _ _).alloc (Nat.le_refl _) _
  have HP := hide hp
  have CA := hide cA
  have CB := hide cB
  have CC := hide cC
  clear hp cA cB cC hF
  cases th
  all_goals
    first | (have e := hN.trans (if_pos rfl); rw [e] at t1; clear e) | (have e := hN.trans (if_neg (by simp)); rw [e] at t1; clear e)
    clear hN
    go_enter Tryz.func28, Tryz.ntmps28
    go_wp2_with (first | (go_at_call 39; go_loud (refine (c39 _).mono ?_; rintro e w1 ⟨rfl, b1⟩; have B1 := hide ((HB1.out _).trans (b1.mono (by simp))); have r1 := (b1.cell (p := ⟨w.heap.size, 1, none⟩) (by simp)); have r2 := (b1.cell (p := ⟨w.heap.size, 2, none⟩) (by simp)); have r3 := (b1.cell (p := ⟨w.heap.size, 3, none⟩) (by simp)); have L1 : w.heap.size < w1.heap.size := (by have := b1.size; simp at this; omega); clear b1; simp [go_sem] at r1 r2 r3)) | ((with_reducible refine Four.at_store (ty := 66) ?_); go_must (refine wpList_store_rowTo rfl 66 _ _ rfl rfl _ #[.string S, .int .u8 h, F] rfl rfl 66 ruNone (heap_alloc_new _ _) size66 rfl ho ?_; rw [World.setRow_alloc_new])))
    have s1 := (World.cell?_alloc_lt w1 (.cells #[.string S, .int .u8 h, F] 66) ⟨w.heap.size, 1, none⟩ (by show w.heap.size < _; omega)).trans r1
    have s2 := (World.cell?_alloc_lt w1 (.cells #[.string S, .int .u8 h, F] 66) ⟨w.heap.size, 2, none⟩ (by show w.heap.size < _; omega)).trans r2
    have s3 := (World.cell?_alloc_lt w1 (.cells #[.string S, .int .u8 h, F] 66) ⟨w.heap.size, 3, none⟩ (by show w.heap.size < _; omega)).trans r3
    have B2 := hide (B1.out.alloc B1.out.size (.cells #[.string S, .int .u8 h, F] 66))
    clear r1 r2 r3 c39 ho L1
    generalize w1.alloc (.cells #[.string S, .int .u8 h, F] 66) = W0 at *
    have y1 : ∀ dd os, (grow (redrawn W0 dd) os).cell? ⟨w.heap.size, 1, none⟩ = some (.int .i64 a) := cell_regrown s1
    have y2 : ∀ dd os, (grow (redrawn W0 dd) os).cell? ⟨w.heap.size, 2, none⟩ = some (.int .i64 b) := cell_regrown s2
    have y3 : ∀ dd os, (grow (redrawn W0 dd) os).cell? ⟨w.heap.size, 3, none⟩ = some (.int .i64 n) := cell_regrown s3
    have PW : Hid (∀ dd os, Pow (grow (redrawn W0 dd) os)) := fun dd os => HP.out.on (B2.out.trans ((below_regrown W0 dd os).mono B2.out.size))
    have x1 : ∀ dd os, Calls Tryz.prog 58 #[.int .i64 a] (grow (redrawn W0 dd) os) fun e w2 => e = .returned (.string A) ∧ ∃ q : Regrown, w2 = grow (redrawn W0 q.d) q.os := fun dd os => Calls.regrown_of (CA.out _ (PW.out _ _))
    have x2 : ∀ dd os, Calls Tryz.prog 58 #[.int .i64 b] (grow (redrawn W0 dd) os) fun e w2 => e = .returned (.string B) ∧ ∃ q : Regrown, w2 = grow (redrawn W0 q.d) q.os := fun dd os => Calls.regrown_of (CB.out _ (PW.out _ _))
    have x3 : ∀ dd os, Calls Tryz.prog 59 #[.int .i64 n, .int .i64 10] (grow (redrawn W0 dd) os) fun e w2 => e = .returned (.string C) ∧ ∃ q : Regrown, w2 = grow (redrawn W0 q.d) q.os := fun dd os => Calls.regrown_of (CC.out _ (PW.out _ _))
    have HBR : Hid (∀ dd os, Below w.heap.size w (grow (redrawn W0 dd) os)) := fun dd os => B2.out.trans ((below_regrown W0 dd os).mono B2.out.size)
    clear s1 s2 s3 B1 B2 PW HP CA CB CC
    refine wp_region_quiet_below (by kernel_rfl) (by kernel_rfl) ?_
    repeat (go_big_quiet_step (first | (go_at_call 58; first | (with_reducible exact x1 _ _) | (with_reducible exact x2 _ _)) | (go_at_call 59; with_reducible exact x3 _ _)))
    refine wpQuiet_nil ?_
    intro _ hw'
    obtain ⟨⟨dq, osq⟩, hw''⟩ := hw'
    subst hw''
    go_wp2
    go_ret
    exact ⟨rfl, HBR.out _ _⟩
/-- how an instruction is shown -/
def nmP (op : Int) : List UInt8 := if 1 ≤ op ∧ op ≤ 12 then opName op else [63]
def shI (i : Ins) : List UInt8 := ((((nmP i.op ++ [32] ++ Lib.itoa i.a) ++ [32]) ++ Lib.itoa i.b) ++ [32]) ++ Lib.itoa i.n
theorem nmP_len (op : Int) : (nmP op).length ≤ 6 := by
  unfold nmP
  split
  · unfold opName
    repeat (split; · decide)
    decide
  · decide
/-- an instruction of a machine -/
structure InB (i : Ins) : Prop where
  a0 : -9223372036854775808 ≤ i.a
  a1 : i.a ≤ 9223372036854775807
  b0 : -9223372036854775808 ≤ i.b
  b1 : i.b ≤ 9223372036854775807
  n0 : -9223372036854775808 ≤ i.n
  n1 : i.n ≤ 9223372036854775807
theorem show_any (i : Ins) (hi : InB i) (w : World) (hp : Pow w) : Calls Tryz.prog 28 #[inA i] w fun e w' => e = .returned (.string ⟨(shI i).toArray⟩) ∧ Below w.heap.size w w' := by
  have la := Lib.itoa_length_le i.a hi.a0 hi.a1
  have lb := Lib.itoa_length_le i.b hi.b0 hi.b1
  have ln := nmP_len i.op
  have lc := Lib.itoa_length_le i.n hi.n0 hi.n1
  have t1 := text_add (nmP i.op) [32] (by simp; omega)
  have t2 := text_add (nmP i.op ++ [32]) (Lib.itoa i.a) (by simp; omega)
  have t3 := text_add (nmP i.op ++ [32] ++ Lib.itoa i.a) [32] (by simp; omega)
  have t4 := text_add ((nmP i.op ++ [32] ++ Lib.itoa i.a) ++ [32]) (Lib.itoa i.b) (by simp; omega)
  have t5 := text_add (((nmP i.op ++ [32] ++ Lib.itoa i.a) ++ [32]) ++ Lib.itoa i.b) [32] (by simp; omega)
  have t6 := text_add ((((nmP i.op ++ [32] ++ Lib.itoa i.a) ++ [32]) ++ Lib.itoa i.b) ++ [32]) (Lib.itoa i.n) (by simp; omega)
  by_cases ho : 1 ≤ i.op ∧ i.op ≤ 12
  · obtain ⟨k, hk⟩ : ∃ k : Nat, i.op = (k : Int) := ⟨i.op.toNat, by omega⟩
    refine show_core i.op i.a i.b i.n ⟨(opName i.op).toArray⟩ (hasN i.op : Int) (.func (.func (opFn i.op)) #[] #[]) rfl true ⟨(nmP i.op).toArray⟩ _ _ _ _ _ _ _ _ _ ?_ w hp (fun W => ?_) (fun W h => itoa_any i.a hi.a0 hi.a1 W h) (fun W h => itoa_any i.b hi.b0 hi.b1 W h) (fun W h => format_any i.n hi.n0 hi.n1 W h) t1 t2 t3 t4 t5 t6
    · unfold nmP; rw [if_pos ho]; rfl
    · rw [hk]; exact rule_in k (by omega) (by omega) W
  · refine show_core i.op i.a i.b i.n ⟨#[]⟩ 0 .nilFunc rfl false ⟨(nmP i.op).toArray⟩ _ _ _ _ _ _ _ _ _ ?_ w hp (fun W => rule_out i.op W ho) (fun W h => itoa_any i.a hi.a0 hi.a1 W h) (fun W h => itoa_any i.b hi.b0 hi.b1 W h) (fun W h => format_any i.n hi.n0 hi.n1 W h) t1 t2 t3 t4 t5 t6
    unfold nmP; rw [if_neg ho]; rfl
end Go.Proofs.YtmbgcpmapaedcaaGreatDoor
