/- code: Show. -/
import Derived.Test.YtmbgcpmapaedcaaDoorCkD
import Derived.Test.YtmbgcpmapaedcaaDoorShelf
import Derived.Lib.QuietBelow
import Derived.Lib.ItoaLen
namespace Go.Proofs.YtmbgcpmapaedcaaDoor
open Go.RowKit Go.Sort
/-- the table of powers of ten -/
def Pow (w : World) : Prop := Lib.TabIs Tryd.prog w "internal/strconv.uint64pow10" .u64 Lib.pow10Tab
theorem Pow.on {w w' : World} (h : Pow w) (hb : Below w.heap.size w w') : Pow w' := Go.Joins.tab_stays (g := 2) (by kernel_rfl) h hb (Nat.le_refl _)
theorem grow_below (w : World) (k : Nat) (os : Array Obj) : Below w.heap.size w (grow (w.drewN k) os) := by
  refine ⟨rfl, rfl, rfl, ?_, fun b hb => ?_⟩
  · show w.heap.size ≤ (w.heap ++ os).size
    rw [Array.size_append]; omega
  · show (w.heap ++ os)[b]? = w.heap[b]?
    rw [Array.getElem?_append_left hb]
theorem itoa_any (n : Int) (h0 : -9223372036854775808 ≤ n) (h1 : n ≤ 9223372036854775807) (w : World) (hp : Pow w) : Calls Tryd.prog 13 #[.int .i64 n] w fun e w' => e = .returned (.string ⟨(Lib.itoa n).toArray⟩) ∧ Below w.heap.size w w' :=
  (Tryd.strconv_Itoa n h0 h1 w hp).mono fun e w' ⟨he, k, os, hw⟩ => ⟨he, by rw [hw]; exact grow_below w k os⟩
theorem format_any (n : Int) (h0 : -9223372036854775808 ≤ n) (h1 : n ≤ 9223372036854775807) (w : World) (hp : Pow w) : Calls Tryd.prog 14 #[.int .i64 n, .int .i64 10] w fun e w' => e = .returned (.string ⟨(Lib.itoa n).toArray⟩) ∧ Below w.heap.size w w' :=
  (Tryd.strconv_FormatInt_10 n h0 h1 w hp).mono fun e w' ⟨he, k, os, hw⟩ => ⟨he, by rw [hw]; exact grow_below w k os⟩
theorem app_text (a b : List UInt8) : (⟨a.toArray⟩ ++ ⟨b.toArray⟩ : ByteArray) = ⟨(a ++ b).toArray⟩ := by
  apply ByteArray.ext
  rw [ByteArray.data_append]
  simp
theorem str_add (a b : ByteArray) (h : a.size + b.size ≤ 1000000) : Op.stringOp .add a b = pure (.string (a ++ b)) := by
  unfold Op.stringOp
  simp only []
  rw [if_neg]
  have : IntKind.i64.max = 9223372036854775807 := by decide
  omega
theorem text_add (a b : List UInt8) (h : a.length + b.length ≤ 1000000) : Op.stringOp .add ⟨a.toArray⟩ ⟨b.toArray⟩ = pure (.string ⟨(a ++ b).toArray⟩) := by
  rw [str_add _ _ (by show a.toArray.size + b.toArray.size ≤ _; simpa using h), app_text]
set_option maxRecDepth 100000 in
set_option maxHeartbeats 3200000 in
theorem show_core (o a b n : Int) (S : ByteArray) (h : Int) (F : Value) (hF : F.oneCell' = true) (th : Bool) (N A B C T1 T2 T3 T4 T5 T6 : ByteArray) (hN : N = if th then S else ⟨#[63]⟩) (w : World) (hp : Pow w)
    (c39 : ∀ W, Calls Tryd.prog 12 #[.int .i64 o] W fun e w' => e = .returned (.tuple #[.agg #[.string S, .int .u8 h, F], .bool th]) ∧ Below W.heap.size W w')
    (cA : ∀ W, Pow W → Calls Tryd.prog 13 #[.int .i64 a] W fun e w' => e = .returned (.string A) ∧ Below W.heap.size W w')
    (cB : ∀ W, Pow W → Calls Tryd.prog 13 #[.int .i64 b] W fun e w' => e = .returned (.string B) ∧ Below W.heap.size W w')
    (cC : ∀ W, Pow W → Calls Tryd.prog 14 #[.int .i64 n, .int .i64 10] W fun e w' => e = .returned (.string C) ∧ Below W.heap.size W w')
    (t1 : Op.stringOp .add N ⟨#[32]⟩ = pure (.string T1)) (t2 : Op.stringOp .add T1 A = pure (.string T2)) (t3 : Op.stringOp .add T2 ⟨#[32]⟩ = pure (.string T3)) (t4 : Op.stringOp .add T3 B = pure (.string T4)) (t5 : Op.stringOp .add T4 ⟨#[32]⟩ = pure (.string T5)) (t6 : Op.stringOp .add T5 C = pure (.string T6)) :
    Calls Tryd.prog 6 #[.agg #[.int .i64 o, .int .i64 a, .int .i64 b, .int .i64 n]] w fun e w' => e = .returned (.string T6) ∧ Below w.heap.size w w' := by
  have ho : (#[.string S, .int .u8 h, F] : Array Value).all (·.oneCell') = true := by
    rw [← Array.all_toList]
    show ((Value.string S).oneCell' && ((Value.int .u8 h).oneCell' && (F.oneCell' && true))) = true
    rw [hF]; rfl
  have HB1 : Hid (∀ X, Below w.heap.size w (w.alloc X)) := fun X => (Below.refl _ _).alloc (Nat.le_refl _) _
  have HP := hide hp
  have CA := hide cA
  have CB := hide cB
  have CC := hide cC
  clear hp cA cB cC hF
  cases th
  all_goals
    first | (have e := hN.trans (if_pos rfl); rw [e] at t1; clear e) | (have e := hN.trans (if_neg (by simp)); rw [e] at t1; clear e)
    clear hN
    go_enter Tryd.func6, Tryd.ntmps6
    go_wp2_with (first | (go_at_call 12; go_loud (refine (c39 _).mono ?_; rintro e w1 ⟨rfl, b1⟩; have B1 := hide ((HB1.out _).trans (b1.mono (by simp))); have r1 := (b1.cell (p := ⟨w.heap.size, 1, none⟩) (by simp)); have r2 := (b1.cell (p := ⟨w.heap.size, 2, none⟩) (by simp)); have r3 := (b1.cell (p := ⟨w.heap.size, 3, none⟩) (by simp)); have L1 : w.heap.size < w1.heap.size := (by have := b1.size; simp at this; omega); clear b1; simp [go_sem] at r1 r2 r3)) | ((with_reducible refine Four.at_store (ty := 44) ?_); go_must (refine wpList_store_rowTo rfl 44 _ _ rfl rfl _ #[.string S, .int .u8 h, F] rfl rfl 44 ruNone (heap_alloc_new _ _) size44 rfl ho ?_; rw [World.setRow_alloc_new])))
    have s1 := (World.cell?_alloc_lt w1 (.cells #[.string S, .int .u8 h, F] 44) ⟨w.heap.size, 1, none⟩ (by show w.heap.size < _; omega)).trans r1
    have s2 := (World.cell?_alloc_lt w1 (.cells #[.string S, .int .u8 h, F] 44) ⟨w.heap.size, 2, none⟩ (by show w.heap.size < _; omega)).trans r2
    have s3 := (World.cell?_alloc_lt w1 (.cells #[.string S, .int .u8 h, F] 44) ⟨w.heap.size, 3, none⟩ (by show w.heap.size < _; omega)).trans r3
    have B2 := hide (B1.out.alloc B1.out.size (.cells #[.string S, .int .u8 h, F] 44))
    clear r1 r2 r3 c39 ho L1
    generalize w1.alloc (.cells #[.string S, .int .u8 h, F] 44) = W0 at *
    have y1 : ∀ dd os, (grow (redrawn W0 dd) os).cell? ⟨w.heap.size, 1, none⟩ = some (.int .i64 a) := cell_regrown s1
    have y2 : ∀ dd os, (grow (redrawn W0 dd) os).cell? ⟨w.heap.size, 2, none⟩ = some (.int .i64 b) := cell_regrown s2
    have y3 : ∀ dd os, (grow (redrawn W0 dd) os).cell? ⟨w.heap.size, 3, none⟩ = some (.int .i64 n) := cell_regrown s3
    have PW : Hid (∀ dd os, Pow (grow (redrawn W0 dd) os)) := fun dd os => HP.out.on (B2.out.trans ((below_regrown W0 dd os).mono B2.out.size))
    have x1 : ∀ dd os, Calls Tryd.prog 13 #[.int .i64 a] (grow (redrawn W0 dd) os) fun e w2 => e = .returned (.string A) ∧ ∃ q : Regrown, w2 = grow (redrawn W0 q.d) q.os := fun dd os => Calls.regrown_of (CA.out _ (PW.out _ _))
    have x2 : ∀ dd os, Calls Tryd.prog 13 #[.int .i64 b] (grow (redrawn W0 dd) os) fun e w2 => e = .returned (.string B) ∧ ∃ q : Regrown, w2 = grow (redrawn W0 q.d) q.os := fun dd os => Calls.regrown_of (CB.out _ (PW.out _ _))
    have x3 : ∀ dd os, Calls Tryd.prog 14 #[.int .i64 n, .int .i64 10] (grow (redrawn W0 dd) os) fun e w2 => e = .returned (.string C) ∧ ∃ q : Regrown, w2 = grow (redrawn W0 q.d) q.os := fun dd os => Calls.regrown_of (CC.out _ (PW.out _ _))
    have HBR : Hid (∀ dd os, Below w.heap.size w (grow (redrawn W0 dd) os)) := fun dd os => B2.out.trans ((below_regrown W0 dd os).mono B2.out.size)
    clear s1 s2 s3 B1 B2 PW HP CA CB CC
    refine wp_region_quiet_below (by kernel_rfl) (by kernel_rfl) ?_
    repeat (go_big_quiet_step (first | (go_at_call 13; first | (with_reducible exact x1 _ _) | (with_reducible exact x2 _ _)) | (go_at_call 14; with_reducible exact x3 _ _)))
    refine wpQuiet_nil ?_
    intro _ hw'
    obtain ⟨⟨dq, osq⟩, hw''⟩ := hw'
    subst hw''
    go_wp2
    go_ret
    exact ⟨rfl, HBR.out _ _⟩
/-- how an instruction is shown -/
def nmP (op : Int) : List UInt8 := if 1 ≤ op ∧ op ≤ 12 then opName op else [63]
def shI (i : Ins) : List UInt8 := ((((nmP i.op ++ [32] ++ Lib.itoa i.a) ++ [32]) ++ Lib.itoa i.b) ++ [32]) ++ Lib.itoa i.n
theorem nmP_len (op : Int) : (nmP op).length ≤ 6 := by
  unfold nmP
  split
  · unfold opName
    repeat (split; · decide)
    decide
  · decide
/-- an instruction of a machine -/
structure InB (i : Ins) : Prop where
  a0 : -9223372036854775808 ≤ i.a
  a1 : i.a ≤ 9223372036854775807
  b0 : -9223372036854775808 ≤ i.b
  b1 : i.b ≤ 9223372036854775807
  n0 : -9223372036854775808 ≤ i.n
  n1 : i.n ≤ 9223372036854775807
theorem show_any (i : Ins) (hi : InB i) (w : World) (hp : Pow w) : Calls Tryd.prog 6 #[inA i] w fun e w' => e = .returned (.string ⟨(shI i).toArray⟩) ∧ Below w.heap.size w w' := by
  have la := Lib.itoa_length_le i.a hi.a0 hi.a1
  have lb := Lib.itoa_length_le i.b hi.b0 hi.b1
  have ln := nmP_len i.op
  have lc := Lib.itoa_length_le i.n hi.n0 hi.n1
  have t1 := text_add (nmP i.op) [32] (by simp; omega)
  have t2 := text_add (nmP i.op ++ [32]) (Lib.itoa i.a) (by simp; omega)
  have t3 := text_add (nmP i.op ++ [32] ++ Lib.itoa i.a) [32] (by simp; omega)
  have t4 := text_add ((nmP i.op ++ [32] ++ Lib.itoa i.a) ++ [32]) (Lib.itoa i.b) (by simp; omega)
  have t5 := text_add (((nmP i.op ++ [32] ++ Lib.itoa i.a) ++ [32]) ++ Lib.itoa i.b) [32] (by simp; omega)
  have t6 := text_add ((((nmP i.op ++ [32] ++ Lib.itoa i.a) ++ [32]) ++ Lib.itoa i.b) ++ [32]) (Lib.itoa i.n) (by simp; omega)
  by_cases ho : 1 ≤ i.op ∧ i.op ≤ 12
  · obtain ⟨k, hk⟩ : ∃ k : Nat, i.op = (k : Int) := ⟨i.op.toNat, by omega⟩
    refine show_core i.op i.a i.b i.n ⟨(opName i.op).toArray⟩ (hasN i.op : Int) (.func (.func (opFn i.op)) #[] #[]) rfl true ⟨(nmP i.op).toArray⟩ _ _ _ _ _ _ _ _ _ ?_ w hp (fun W => ?_) (fun W h => itoa_any i.a hi.a0 hi.a1 W h) (fun W h => itoa_any i.b hi.b0 hi.b1 W h) (fun W h => format_any i.n hi.n0 hi.n1 W h) t1 t2 t3 t4 t5 t6
    · unfold nmP; rw [if_pos ho]; rfl
    · rw [hk]; exact rule_in k (by omega) (by omega) W
  · refine show_core i.op i.a i.b i.n ⟨#[]⟩ 0 .nilFunc rfl false ⟨(nmP i.op).toArray⟩ _ _ _ _ _ _ _ _ _ ?_ w hp (fun W => rule_out i.op W ho) (fun W h => itoa_any i.a hi.a0 hi.a1 W h) (fun W h => itoa_any i.b hi.b0 hi.b1 W h) (fun W h => format_any i.n hi.n0 hi.n1 W h) t1 t2 t3 t4 t5 t6
    unfold nmP; rw [if_neg ho]; rfl
end Go.Proofs.YtmbgcpmapaedcaaDoor
