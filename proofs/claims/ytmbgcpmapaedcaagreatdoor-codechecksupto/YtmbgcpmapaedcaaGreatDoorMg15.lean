/- Items in memory; small contracts: mayBe, itemBytes, the document's May and Fault. | 'or' of a shifted number and a byte is their sum. | The contracts of the program's small readers. | The contract of wire.readNumberItem. | The contract of strings.Clone. -/
import Derived.Test.YtmbgcpmapaedcaaGreatDoorWiWire
import Derived.Test.YtmbgcpmapaedcaaGreatDoorProg
import Derived.Deep.QuietTactic
import Derived.BigQuiet
import Derived.Lib.UnsafeStr
import Derived.Lib.BufferWrite
import Derived.OwnWalk
namespace Go.Proofs.YtmbgcpmapaedcaaGreatDoor.Wi
open Go.RowKit
def itA (x : It) : Value := .agg #[.bool x.t, .int .i64 x.n, .string x.s]
theorem text_len (s : ByteArray) : s.data.toList.length = s.size := by rw [Array.length_toList]; rfl
theorem ret_bool {a b : Bool} (h : a = b) : Ending.returned (.bool a) = .returned (.bool b) := by rw [h]
theorem ret_int {k : IntKind} {a b : Int} (h : a = b) : Ending.returned (.int k a) = .returned (.int k b) := by rw [h]
theorem text_ext {a b : ByteArray} (h : a.data.toList = b.data.toList) : a = b := ByteArray.ext (Array.toList_inj.1 h)
theorem empty_list (s : ByteArray) : s.toList.isEmpty = decide (s.size = 0) := by
  rw [ByteArray.toList_eq, ← text_len]
  cases s.data.toList <;> simp
theorem beq_text (a b : ByteArray) : (a.toList == b.toList) = decide (a = b) := by
  rw [ByteArray.toList_eq, ByteArray.toList_eq]
  by_cases h : a = b
  · rw [h, decide_eq_true rfl]; exact beq_self_eq_true _
  · rw [decide_eq_false h, beq_eq_false_iff_ne]; exact fun e => h (text_ext e)
theorem may_true (s : ByteArray) : decide ((s.size : Int) ≤ 65535) = mayB ⟨true, 0, s⟩ := by
  rw [Bool.eq_iff_iff]; simp [mayB]; omega
set_option maxHeartbeats 800000 in
theorem mayBe_any (x : It) (w : World) : Calls Tryz.prog 48 #[itA x] w fun e w' => e = .returned (.bool (mayB x)) ∧ Below w.heap.size w w' := by
  obtain ⟨t, n, s⟩ := x
  unfold itA
  cases t with
  | true =>
    by_cases hn : n = 0
    · subst hn
      go_enter Tryz.func48, Tryz.ntmps48
      go_wp2
      go_ret
      exact ⟨ret_bool (b := mayB ⟨true, 0, s⟩) (may_true s), (Below.refl _ _).alloc (Nat.le_refl _) _⟩
    · have hb : (n == 0) = false := by rw [beq_eq_false_iff_ne]; exact hn
      go_enter Tryz.func48, Tryz.ntmps48
      go_wp2
      go_ret
      refine ⟨ret_bool (b := mayB ⟨true, n, s⟩) ?_, (Below.refl _ _).alloc (Nat.le_refl _) _⟩
      unfold mayB
      simp [hn]
  | false =>
    go_enter Tryz.func48, Tryz.ntmps48
    go_wp2
    go_ret
    exact ⟨ret_bool (b := mayB ⟨false, n, s⟩) (empty_list s), (Below.refl _ _).alloc (Nat.le_refl _) _⟩
set_option maxHeartbeats 1600000 in
theorem may_any (x : It) (w : World) : Calls Tryz.prog 55 #[itA x] w fun e w' => e = .returned (.bool (mayB x)) ∧ Below w.heap.size w w' := by
  obtain ⟨t, n, s⟩ := x
  unfold itA
  cases t with
  | true =>
    by_cases hn : n = 0
    · subst hn
      by_cases hs : s.size ≤ 65535
      · have i1 : (s.size : Int) ≤ 65535 := by omega
        have hm : mayB ⟨true, 0, s⟩ = true := by unfold mayB; simp [hs]
        rw [hm]
        clear hm
        go_enter Tryz.func55, Tryz.ntmps55
        go_wp2
        go_ret
        exact ⟨rfl, (Below.refl _ _).alloc (Nat.le_refl _) _⟩
      · have i1 : ¬ (s.size : Int) ≤ 65535 := by omega
        have hm : mayB ⟨true, 0, s⟩ = false := by unfold mayB; simp [hs]
        rw [hm]
        clear hm
        go_enter Tryz.func55, Tryz.ntmps55
        go_wp2
        go_ret
        exact ⟨rfl, (Below.refl _ _).alloc (Nat.le_refl _) _⟩
    · have hb : (n == 0) = false := by rw [beq_eq_false_iff_ne]; exact hn
      have hm : mayB ⟨true, n, s⟩ = false := by unfold mayB; simp [hn]
      rw [hm]
      clear hm
      go_enter Tryz.func55, Tryz.ntmps55
      go_wp2
      go_ret
      exact ⟨rfl, (Below.refl _ _).alloc (Nat.le_refl _) _⟩
  | false =>
    go_enter Tryz.func55, Tryz.ntmps55
    go_wp2
    go_ret
    exact ⟨ret_bool (b := mayB ⟨false, n, s⟩) (empty_list s), (Below.refl _ _).alloc (Nat.le_refl _) _⟩
/-- how many bytes an item has -/
def ib (x : It) : Nat := if x.t then 3 + x.s.size else 9
set_option maxHeartbeats 800000 in
theorem itemBytes_any (x : It) (hs : x.s.size ≤ 140737488355328) (w : World) : Calls Tryz.prog 49 #[itA x] w fun e w' => e = .returned (.int .i64 (ib x : Int)) ∧ Below w.heap.size w w' := by
  obtain ⟨t, n, s⟩ := x
  have i1 : (s.size : Int) ≤ 140737488355328 := by have : s.size ≤ 140737488355328 := hs; omega
  unfold itA
  cases t with
  | true =>
    go_enter Tryz.func49, Tryz.ntmps49
    go_wp2
    go_ret
    refine ⟨ret_int (b := (ib ⟨true, n, s⟩ : Int)) ?_, (Below.refl _ _).alloc (Nat.le_refl _) _⟩
    show _ = (((3 + s.size : Nat)) : Int)
    omega
  | false =>
    go_enter Tryz.func49, Tryz.ntmps49
    go_wp2
    go_ret
    exact ⟨rfl, (Below.refl _ _).alloc (Nat.le_refl _) _⟩
theorem fault_any (p c : Int) (w : World) : Calls Tryz.prog 66 #[.int .i64 p, .int .i64 c] w fun e w' => e = .returned (.agg #[.int .i64 p, .int .i64 c]) ∧ Below w.heap.size w w' := by
  go_enter Tryz.func66, Tryz.ntmps66
  go_wp2
  refine bodyPost_ret (v := .agg #[.int .i64 p, .int .i64 c]) ?_ rfl ⟨rfl, ?_⟩
  · simp [results, Tryz.results66, go_sem]
  · exact (Below.refl _ _).alloc (Nat.le_refl _) _
end Go.Proofs.YtmbgcpmapaedcaaGreatDoor.Wi
namespace Go.Proofs.YtmbgcpmapaedcaaGreatDoor.Wi
open Go.RowKit
theorem or_nat (a b : Nat) (hb : b < 256) : a * 256 ||| b = a * 256 + b := by
  have := Nat.shiftLeft_add_eq_or_of_lt (show b < 2 ^ 8 by omega) a
  rw [Nat.shiftLeft_eq] at this; exact this.symm
theorem wrap_i64_small (n : Nat) (h : n < 9223372036854775808) : IntKind.i64.wrap (n : Int) = (n : Int) := by
  simp [IntKind.wrap, IntKind.bits, IntKind.signed]
  omega
theorem wrap_u64_small (n : Nat) (h : n < 18446744073709551616) : IntKind.u64.wrap (n : Int) = (n : Int) := by
  simp [IntKind.wrap, IntKind.bits, IntKind.signed]
  omega
theorem or_i64 (a b : Nat) (ha : a < 65536) (hb : b < 256) : bits .or .i64 ((a : Int) * 256) (b : Int) = ((a * 256 + b : Nat) : Int) := by
  show IntKind.i64.wrap ((BitVec.ofInt 64 ((a : Int) * 256) ||| BitVec.ofInt 64 (b : Int)).toNat : Int) = _
  rw [show (a : Int) * 256 = ((a * 256 : Nat) : Int) from by omega, BitVec.ofInt_natCast, BitVec.ofInt_natCast, BitVec.toNat_or, BitVec.toNat_ofNat, BitVec.toNat_ofNat, Nat.mod_eq_of_lt (by omega), Nat.mod_eq_of_lt (by omega), or_nat a b hb]
  exact wrap_i64_small _ (by omega)
/-- the shift's own form: what lies above 2^64 is cut off -/
theorem or_u64 (a b : Nat) (hb : b < 256) : bits .or .u64 (IntKind.u64.wrap ((a : Int) * 256)) (b : Int) = (((a * 256 + b) % 18446744073709551616 : Nat) : Int) := by
  have e : IntKind.u64.wrap ((a : Int) * 256) = ((a * 256 % 18446744073709551616 : Nat) : Int) := by
    simp [IntKind.wrap, IntKind.bits, IntKind.signed]
  rw [e]
  show IntKind.u64.wrap ((BitVec.ofInt 64 ((a * 256 % 18446744073709551616 : Nat) : Int) ||| BitVec.ofInt 64 (b : Int)).toNat : Int) = _
  rw [BitVec.ofInt_natCast, BitVec.ofInt_natCast, BitVec.toNat_or, BitVec.toNat_ofNat, BitVec.toNat_ofNat, Nat.mod_eq_of_lt (show b < 2 ^ 64 by omega)]
  have e2 : a * 256 % 18446744073709551616 % 2 ^ 64 = (a % 72057594037927936) * 256 := by omega
  rw [e2, or_nat _ b hb, wrap_u64_small _ (by omega)]
  omega
end Go.Proofs.YtmbgcpmapaedcaaGreatDoor.Wi
namespace Go.Proofs.YtmbgcpmapaedcaaGreatDoor.Wi
open Go.RowKit
theorem run_idx (s : ByteArray) (k : Nat) (c : UInt8) (h : s.data.toList[k]? = some c) (W : World) : (Instr.index 9 (.string s) (.int .i64 (k : Int))).run Tryz.prog W = .ok (.int .u8 (c.toNat : Int)) W := by
  have e : s[k]? = some c := by
    have hk : k < s.size := by rw [← text_len]; exact (List.getElem?_eq_some_iff.1 h).1
    rw [Array.getElem?_toList] at h
    have h' := (Array.getElem?_eq_some_iff.1 h).2
    simp [hk]; exact h'
  have hk : k < s.size := by rw [← text_len]; exact (List.getElem?_eq_some_iff.1 h).1
  simp only [Instr.index, asIntOf, Sem.run_bind, Sem.run_pure, Result.andThen_ok, run_underlying Tryz.underlying9]
  rw [if_pos (by omega), Int.toNat_natCast]
  simp [e]
theorem below_drawn {B : Nat} {a w : World} (h : Below B a w) (n : Nat) : Below B a (w.drewN n) := h.trans ⟨rfl, rfl, rfl, Nat.le_refl _, fun _ _ => rfl⟩
set_option maxHeartbeats 800000 in
theorem readPair_any (s : ByteArray) (h l : UInt8) (h0 : s.data.toList[0]? = some h) (h1 : s.data.toList[1]? = some l) (w : World) :
    Calls Tryz.prog 104 #[.string s] w fun e w' => e = .returned (.int .i64 ((h.toNat * 256 + l.toNat : Nat) : Int)) ∧ Below w.heap.size w w' := by
  have x0 : ∀ W, (Instr.index 9 (.string s) (.int .i64 0)).run Tryz.prog W = .ok (.int .u8 (h.toNat : Int)) W := run_idx s 0 h h0
  have x1 : ∀ W, (Instr.index 9 (.string s) (.int .i64 1)).run Tryz.prog W = .ok (.int .u8 (l.toNat : Int)) W := run_idx s 1 l h1
  have b0 : (h.toNat : Int) < 256 := by have := h.toNat_lt; omega
  have b1 : (l.toNat : Int) < 256 := by have := l.toNat_lt; omega
  go_enter Tryz.func104, Tryz.ntmps104
  go_wp2
  go_quiet (fail)
  go_wp2
  go_ret
  exact ⟨ret_int (or_i64 _ _ (by omega) (by omega)), below_drawn (Below.refl _ _) _⟩
theorem numV_snoc (l : List UInt8) (c : UInt8) : ∀ a, numV (l ++ [c]) a = numV l a * 256 + c.toNat := by
  induction l with
  | nil => intro a; rfl
  | cons x l ih => intro a; exact ih _
theorem numV_lt (l : List UInt8) : ∀ a, numV l a < (a + 1) * 256 ^ l.length := by
  induction l with
  | nil => intro a; simp [numV]
  | cons x l ih =>
    intro a
    have h := ih (a * 256 + x.toNat)
    have hx := x.toNat_lt
    rw [numV, List.length_cons, Nat.pow_succ]
    refine Nat.lt_of_lt_of_le h ?_
    rw [Nat.mul_comm (256 ^ l.length) 256, ← Nat.mul_assoc]
    exact Nat.mul_le_mul_right _ (by omega)
theorem sign_wrap (v : Nat) (h : v < 18446744073709551616) : IntKind.i64.wrap (v : Int) = signV v := by
  unfold signV
  simp [IntKind.wrap, IntKind.bits, IntKind.signed]
  split <;> omega
/-- what a reader of one item answers -/
def rdOut : Except Int (It × List UInt8) → Value
  | .error e => .tuple #[.agg #[.bool false, .int .i64 0, .string ⟨#[]⟩], .iface 122 (.int .i64 e)]
  | .ok (x, _) => .tuple #[itA x, .nilIface]
end Go.Proofs.YtmbgcpmapaedcaaGreatDoor.Wi
namespace Go.Proofs.YtmbgcpmapaedcaaGreatDoor.Wi
open Go.RowKit
theorem or_u64s (a b : Nat) (ha : a < 72057594037927936) (hb : b < 256) : bits .or .u64 ((a : Int) * 256) (b : Int) = ((a * 256 + b : Nat) : Int) := by
  have h := or_u64 a b hb
  rw [show (a : Int) * 256 = ((a * 256 : Nat) : Int) from by omega, wrap_u64_small _ (by omega)] at h
  rw [show (a : Int) * 256 = ((a * 256 : Nat) : Int) from by omega, h, Nat.mod_eq_of_lt (by omega)]
theorem numV_take (q : List UInt8) (k : Nat) (h : k < q.length) : numV (q.take (k + 1)) 0 = numV (q.take k) 0 * 256 + q[k].toNat := by
  rw [List.take_succ_eq_append_getElem h, numV_snoc]
theorem numV_bound (q : List UInt8) (k : Nat) (h : k ≤ 7) : numV (q.take k) 0 < 72057594037927936 := by
  have h1 := numV_lt (q.take k) 0
  have h2 : (q.take k).length ≤ 7 := by rw [List.length_take]; omega
  have h3 : 256 ^ (q.take k).length ≤ 256 ^ 7 := Nat.pow_le_pow_right (by omega) h2
  have h4 : (256 : Nat) ^ 7 = 72057594037927936 := by decide
  omega
theorem numV_bound8 (q : List UInt8) : numV (q.take 8) 0 < 18446744073709551616 := by
  have h1 := numV_lt (q.take 8) 0
  have h2 : (q.take 8).length ≤ 8 := by rw [List.length_take]; omega
  have h3 : 256 ^ (q.take 8).length ≤ 256 ^ 8 := Nat.pow_le_pow_right (by omega) h2
  have h4 : (256 : Nat) ^ 8 = 18446744073709551616 := by decide
  omega
theorem list_size_cons {s : ByteArray} {c : UInt8} {q : List UInt8} (hq : s.data.toList = c :: q) : s.size = q.length + 1 := by rw [← text_len, hq, List.length_cons]
set_option maxRecDepth 100000 in
set_option maxHeartbeats 1600000 in
theorem readNum_any (s : ByteArray) (c : UInt8) (q : List UInt8) (hq : s.data.toList = c :: q) (hs : s.size ≤ 65536) (w : World) :
    Calls Tryz.prog 105 #[.string s] w fun e w' => e = .returned (rdOut (rdN q)) ∧ Below w.heap.size w w' := by
  have hz := list_size_cons hq
  by_cases h8 : q.length < 8
  · have hr : rdN q = .error 30 := by unfold rdN; rw [if_pos h8]
    rw [hr]
    have i1 : (s.size : Int) < 9 := by omega
    clear hr hq
    go_enter Tryz.func105, Tryz.ntmps105
    go_wp2
    refine bodyPost_ret (v := rdOut (.error 30)) ?_ rfl ⟨rfl, ?_⟩
    · simp [results, Tryz.results105, go_sem, rdOut]
    · exact (Below.refl _ _).alloc (Nat.le_refl _) _
  · have hr : rdN q = .ok (numIt (q.take 8), q.drop 8) := by unfold rdN; rw [if_neg h8]
    rw [hr]
    have i1 : ¬ (s.size : Int) < 9 := by omega
    have i2 : (9 : Int) ≤ (s.size : Int) := by omega
    have HQ : Hid (s.data.toList = c :: q) := hq
    have hsg : Hid (IntKind.i64.wrap ((numV (q.take 8) 0 : Nat) : Int) = signV (numV (q.take 8) 0)) := sign_wrap _ (numV_bound8 q)
    clear hr hq
    go_enter Tryz.func105, Tryz.ntmps105
    go_wp2_with fail
    go_loop [4, 5] (fun n i => ∃ k : Nat, k ≤ 8 ∧ i = .int .i64 ((k + 1 : Nat) : Int) ∧ n = .int .u64 ((numV (q.take k) 0 : Nat) : Int)) (fun _ i => 9 - (intOf i).toNat)
    case atStart => exact ⟨0, by omega, rfl, rfl⟩
    case round =>
      obtain ⟨k, hk, rfl, rfl⟩ := hrel
      by_cases hlt : k < 8
      · have j1 : ((k + 1 : Nat) : Int) < 9 := by omega
        have j2 : (0 : Int) ≤ ((k + 1 : Nat) : Int) := by omega
        have hql : k < q.length := by omega
        have hx := run_idx s (k + 1) q[k] (by rw [HQ.out, List.getElem?_cons_succ, List.getElem?_eq_getElem hql])
        have hb := numV_bound q k (by omega)
        have HN : Hid (((numV (q.take (k + 1)) 0 : Nat) : Int) = bits .or .u64 (((numV (q.take k) 0 : Nat) : Int) * 256) ((q[k].toNat : Nat) : Int)) := by
          unfold Hid
          rw [or_u64s _ _ hb (q[k].toNat_lt), numV_take q k hql]
        have hc : (q[k].toNat : Int) < 256 := by have := q[k].toNat_lt; omega
        generalize q[k] = d at *
        have hb' : ((numV (q.take k) 0 : Nat) : Int) < 72057594037927936 := by omega
        generalize numV (q.take k) 0 = m at *
        have j3 : IntKind.i64.wrap (((k + 1 : Nat) : Int) + 1) = ((k + 1 + 1 : Nat) : Int) := by rw [show ((k + 1 : Nat) : Int) + 1 = ((k + 1 + 1 : Nat) : Int) from by omega]; exact wrap_i64_small _ (by omega)
        have HK : Hid (((k + 1 : Nat) : Int) = (k : Int) + 1) := by show _ = _; omega
        generalize ((k + 1 : Nat) : Int) = K at *
        go_wp2
        go_round
        case rel => exact ⟨k + 1, by omega, by go_num, by rw [HN.out]⟩
        case measure => simp only [intOf]; rw [HK.out]; omega
      · obtain rfl : k = 8 := by omega
        clear HQ
        have hsg' := hsg.out
        go_wp2
        refine bodyPost_ret (v := rdOut (.ok (numIt (q.take 8), q.drop 8))) ?_ rfl ⟨rfl, ?_⟩
        · simp [results, Tryz.results105, go_sem, rdOut, itA, numIt]
        · exact (Below.refl _ _).alloc (Nat.le_refl _) _
end Go.Proofs.YtmbgcpmapaedcaaGreatDoor.Wi
namespace Go.Proofs.YtmbgcpmapaedcaaGreatDoor.Wi
open Go.RowKit
def encB (b : UInt8) : Value := .int .u8 (b.toNat : Int)
def encK (f : List UInt8) : Array Value := (f.map encB).toArray
theorem encK_size (f : List UInt8) : (encK f).size = f.length := by simp [encK]
theorem encK_get (f : List UInt8) (k : Nat) (x : UInt8) (h : f[k]? = some x) : (encK f)[k]? = some (.int .u8 (x.toNat : Int)) := by
  unfold encK
  rw [List.getElem?_toArray, List.getElem?_map, h]; rfl
theorem addr_add (g j : Nat) : (⟨g, 0, none⟩ : Addr).add j = ⟨g, j, none⟩ := by unfold Addr.add; split <;> simp_all
theorem in5 : (Tryz.prog.info? 5).map (fun i => (i.zero, i.size, i.bytes)) = some (some (.int .u8 0), 1, 1) := by kernel_rfl
theorem z5 : (Tryz.prog.info? 5).map (·.size) = some 1 := by kernel_rfl
theorem c5w : Tryz.prog.cellsOf 5 = 1 := by kernel_rfl
theorem heap_setRow_same (w : World) (g : Nat) (old cs : Array Value) (t : TypeId) (hg : w.heap[g]? = some (.cells old t (0, 0))) : (w.setRow g cs).heap[g]? = some (.cells cs t (0, 0)) := setRow_heap w g old cs t _ hg
theorem below_setRow1 (w : World) (B g : Nat) (cs : Array Value) (h : B ≤ g) : Below B w (w.setRow g cs) :=
  ⟨rfl, rfl, rfl, by simp, fun k hk => by
    simp only [World.setRow, Array.getElem?_modify]
    rw [if_neg (by omega)]⟩
set_option maxRecDepth 100000 in
set_option maxHeartbeats 1600000 in
theorem clone_any (s : ByteArray) (hn : s.size ≤ 140737488355000) (w : World) :
    Calls Tryz.prog 145 #[.string s] w fun e w' => e = .returned (.string s) ∧ Below w.heap.size w w' := by
  by_cases h0 : s.size = 0
  · obtain rfl : s = ⟨#[]⟩ := ByteArray.ext (Array.eq_empty_of_size_eq_zero h0)
    go_enter Tryz.func145, Tryz.ntmps145
    go_wp2
    go_ret
    exact ⟨rfl, Below.refl _ _⟩
  · obtain ⟨i0, hi, hz0, hz1, hz2⟩ := info_parts in5
    have hne : s.data.toList ≠ [] := fun e => h0 (by rw [← text_len, e]; rfl)
    have hmk : ∀ u : World, (Instr.makeSlice 78 (.int .i64 (s.size : Int)) (.int .i64 (s.size : Int))).run Tryz.prog u =
        .ok (.slice (some ⟨u.heap.size, 0, none⟩) s.size s.size) (u.alloc (.cells (madeCells #[.int .u8 0] s.size) 5)) := fun u => by
      have h := run_make (P := Tryz.prog) u 78 5 i0 (.int .u8 0) Tryz.underlying78 hi hz0 .i64 .i64 (s.size : Int) (s.size : Int) (by omega) (by omega) (by rw [hz2]; omega) (by omega)
      simpa [hz1, Value.cells] using h
    have hMs : (madeCells #[.int .u8 0] s.size).size = s.size := by simp [madeCells]
    generalize madeCells #[.int .u8 0] s.size = M at *
    have hcp := Lib.run_copy_row_string (P := Tryz.prog) (w.alloc (.cells M 5)) 78 9 3 5 w.heap.size 0 s.size s.size s M 5 Tryz.underlying78 z5 (heap_alloc_new w _) (Nat.le_refl _) (by omega)
    have hY : (M.toList.take 0 ++ Lib.byteCells s.data.toList ++ M.toList.drop (0 + s.size)).toArray = encK s.data.toList := by
      rw [List.drop_of_length_le (by rw [Array.length_toList]; omega)]
      unfold encK Lib.byteCells
      simp
      exact fun _ _ => rfl
    rw [hY] at hcp
    have hgY := heap_setRow_same (w.alloc (.cells M 5)) w.heap.size M (encK s.data.toList) 5 (heap_alloc_new w _)
    have hB : Below w.heap.size w ((w.alloc (.cells M 5)).setRow w.heap.size (encK s.data.toList)) := ((Below.refl _ _).alloc (Nat.le_refl _) _).trans (below_setRow1 _ _ _ _ (by omega))
    have hUS := Lib.run_unsafeString_row (P := Tryz.prog) ((w.alloc (.cells M 5)).setRow w.heap.size (encK s.data.toList)) 193 3 9 5 Tryz.underlying193 c5w w.heap.size (encK s.data.toList).size (by unfold World.shape?; rw [hgY]) s.data.toList hne (by rw [encK_size]; exact Nat.le_refl _) (by rw [text_len]; omega)
      (fun j x hx => by rw [addr_add, cell_of_row _ _ _ _ _ _ hgY]; exact encK_get _ _ _ hx)
    rw [text_len] at hUS
    have hF : Hid (Below w.heap.size w (((w.alloc (.cells M 5)).setRow w.heap.size (encK s.data.toList)).freeze ⟨w.heap.size, 0, none⟩ s.size)) := Lib.below_freeze hB (p := ⟨w.heap.size, 0, none⟩) (Nat.le_refl _) _
    clear hY hMs hB hi hne hgY
    have i1 : ((s.size : Int) == 0) = false := by rw [beq_eq_false_iff_ne]; omega
    have i2 : (0 : Int) < (s.size : Int) := by omega
    generalize (w.alloc (.cells M 5)).setRow w.heap.size (encK s.data.toList) = W2 at *
    go_enter Tryz.func145, Tryz.ntmps145
    go_wp2
    go_ret
    exact ⟨rfl, hF⟩
set_option maxHeartbeats 800000 in
theorem sclone_any (s : ByteArray) (hn : s.size ≤ 140737488355000) (w : World) :
    Calls Tryz.prog 121 #[.string s] w fun e w' => e = .returned (.string s) ∧ Below w.heap.size w w' := by
  go_enter Tryz.func121, Tryz.ntmps121
  go_wp2_with fail
  refine (clone_any s hn _).mono ?_
  rintro e w1 ⟨rfl, hb1⟩
  have b1 : Hid (Below w.heap.size w w1) := hb1
  clear hb1
  go_wp2
  go_ret
  exact ⟨rfl, b1⟩
end Go.Proofs.YtmbgcpmapaedcaaGreatDoor.Wi
