/- Items in memory; small contracts: mayBe, itemBytes, the document's May and Fault. | The contract of strings.Clone. | Reading items one by one: plain facts. | The contracts of wire.appendPair and wire.appendNumber. | The contract of wire.appendNumber. -/
import Derived.Test.YtmbgcpmapaedcaaDoorWiWire
import Derived.Test.YtmbgcpmapaedcaaDoorProg
import Derived.Deep.QuietTactic
import Derived.BigQuiet
import Derived.Lib.UnsafeStr
import Derived.Lib.BufferWrite
import Derived.OwnWalk
import Derived.Deep.AppendLies
import Derived.Deep.DeepMust
namespace Go.Proofs.YtmbgcpmapaedcaaDoor.Wi
open Go.RowKit
def itA (x : It) : Value := .agg #[.bool x.t, .int .i64 x.n, .string x.s]
theorem text_len (s : ByteArray) : s.data.toList.length = s.size := by rw [Array.length_toList]; rfl
theorem ret_bool {a b : Bool} (h : a = b) : Ending.returned (.bool a) = .returned (.bool b) := by rw [h]
theorem ret_int {k : IntKind} {a b : Int} (h : a = b) : Ending.returned (.int k a) = .returned (.int k b) := by rw [h]
theorem text_ext {a b : ByteArray} (h : a.data.toList = b.data.toList) : a = b := ByteArray.ext (Array.toList_inj.1 h)
theorem empty_list (s : ByteArray) : s.toList.isEmpty = decide (s.size = 0) := by
  rw [ByteArray.toList_eq, ← text_len]
  cases s.data.toList <;> simp
theorem beq_text (a b : ByteArray) : (a.toList == b.toList) = decide (a = b) := by
  rw [ByteArray.toList_eq, ByteArray.toList_eq]
  by_cases h : a = b
  · rw [h, decide_eq_true rfl]; exact beq_self_eq_true _
  · rw [decide_eq_false h, beq_eq_false_iff_ne]; exact fun e => h (text_ext e)
theorem may_true (s : ByteArray) : decide ((s.size : Int) ≤ 65535) = mayB ⟨true, 0, s⟩ := by
  rw [Bool.eq_iff_iff]; simp [mayB]; omega
set_option maxHeartbeats 800000 in
theorem mayBe_any (x : It) (w : World) : Calls Tryd.prog 36 #[itA x] w fun e w' => e = .returned (.bool (mayB x)) ∧ Below w.heap.size w w' := by
  obtain ⟨t, n, s⟩ := x
  unfold itA
  cases t with
  | true =>
    by_cases hn : n = 0
    · subst hn
      go_enter Tryd.func36, Tryd.ntmps36
      go_wp2
      go_ret
      exact ⟨ret_bool (b := mayB ⟨true, 0, s⟩) (may_true s), (Below.refl _ _).alloc (Nat.le_refl _) _⟩
    · have hb : (n == 0) = false := by rw [beq_eq_false_iff_ne]; exact hn
      go_enter Tryd.func36, Tryd.ntmps36
      go_wp2
      go_ret
      refine ⟨ret_bool (b := mayB ⟨true, n, s⟩) ?_, (Below.refl _ _).alloc (Nat.le_refl _) _⟩
      unfold mayB
      simp [hn]
  | false =>
    go_enter Tryd.func36, Tryd.ntmps36
    go_wp2
    go_ret
    exact ⟨ret_bool (b := mayB ⟨false, n, s⟩) (empty_list s), (Below.refl _ _).alloc (Nat.le_refl _) _⟩
/-- how many bytes an item has -/
def ib (x : It) : Nat := if x.t then 3 + x.s.size else 9
set_option maxHeartbeats 800000 in
theorem itemBytes_any (x : It) (hs : x.s.size ≤ 140737488355328) (w : World) : Calls Tryd.prog 37 #[itA x] w fun e w' => e = .returned (.int .i64 (ib x : Int)) ∧ Below w.heap.size w w' := by
  obtain ⟨t, n, s⟩ := x
  have i1 : (s.size : Int) ≤ 140737488355328 := by have : s.size ≤ 140737488355328 := hs; omega
  unfold itA
  cases t with
  | true =>
    go_enter Tryd.func37, Tryd.ntmps37
    go_wp2
    go_ret
    refine ⟨ret_int (b := (ib ⟨true, n, s⟩ : Int)) ?_, (Below.refl _ _).alloc (Nat.le_refl _) _⟩
    show _ = (((3 + s.size : Nat)) : Int)
    omega
  | false =>
    go_enter Tryd.func37, Tryd.ntmps37
    go_wp2
    go_ret
    exact ⟨rfl, (Below.refl _ _).alloc (Nat.le_refl _) _⟩
end Go.Proofs.YtmbgcpmapaedcaaDoor.Wi
namespace Go.Proofs.YtmbgcpmapaedcaaDoor.Wi
open Go.RowKit
def encB (b : UInt8) : Value := .int .u8 (b.toNat : Int)
def encK (f : List UInt8) : Array Value := (f.map encB).toArray
theorem encK_size (f : List UInt8) : (encK f).size = f.length := by simp [encK]
theorem encK_get (f : List UInt8) (k : Nat) (x : UInt8) (h : f[k]? = some x) : (encK f)[k]? = some (.int .u8 (x.toNat : Int)) := by
  unfold encK
  rw [List.getElem?_toArray, List.getElem?_map, h]; rfl
theorem addr_add (g j : Nat) : (⟨g, 0, none⟩ : Addr).add j = ⟨g, j, none⟩ := by unfold Addr.add; split <;> simp_all
theorem in5 : (Tryd.prog.info? 5).map (fun i => (i.zero, i.size, i.bytes)) = some (some (.int .u8 0), 1, 1) := by kernel_rfl
theorem z5 : (Tryd.prog.info? 5).map (·.size) = some 1 := by kernel_rfl
theorem c5w : Tryd.prog.cellsOf 5 = 1 := by kernel_rfl
theorem heap_setRow_same (w : World) (g : Nat) (old cs : Array Value) (t : TypeId) (hg : w.heap[g]? = some (.cells old t (0, 0))) : (w.setRow g cs).heap[g]? = some (.cells cs t (0, 0)) := setRow_heap w g old cs t _ hg
theorem below_setRow1 (w : World) (B g : Nat) (cs : Array Value) (h : B ≤ g) : Below B w (w.setRow g cs) :=
  ⟨rfl, rfl, rfl, by simp, fun k hk => by
    simp only [World.setRow, Array.getElem?_modify]
    rw [if_neg (by omega)]⟩
end Go.Proofs.YtmbgcpmapaedcaaDoor.Wi
namespace Go.Proofs.YtmbgcpmapaedcaaDoor.Wi
open Go.RowKit
def itC (x : It) : List Value := [.bool x.t, .int .i64 x.n, .string x.s]
def itsC : List It → List Value
  | [] => []
  | x :: l => itC x ++ itsC l
theorem itsC_append (a b : List It) : itsC (a ++ b) = itsC a ++ itsC b := by
  induction a with
  | nil => rfl
  | cons x a ih => rw [List.cons_append, itsC, itsC, ih, List.append_assoc]
theorem itsC_length (l : List It) : (itsC l).length = l.length * 3 := by
  induction l with
  | nil => rfl
  | cons x l ih => rw [itsC, List.length_append, ih, List.length_cons]; show 3 + _ = _; omega
theorem itsC_get (l : List It) : ∀ (i j : Nat) (h : i < l.length), j < 3 → (itsC l)[i * 3 + j]? = (itC l[i])[j]? := by
  induction l with
  | nil => intro i j h; exact absurd h (Nat.not_lt_zero _)
  | cons x l ih =>
    intro i j h hj
    match i with
    | 0 => rw [itsC, List.getElem?_append_left (by show 0 * 3 + j < 3; omega), Nat.zero_mul, Nat.zero_add]; rfl
    | i + 1 =>
      rw [itsC, List.getElem?_append_right (by show 3 ≤ _; omega)]
      show (itsC l)[(i + 1) * 3 + j - 3]? = (itC (l[i]'(by simpa using h)))[j]?
      rw [show (i + 1) * 3 + j - 3 = i * 3 + j from by omega]
      exact ih i j (by simpa using h) hj
/-- what has been read ahead of it -/
def rdsC (l : List It) : Except (Nat × Int) (List It × List UInt8) → Except (Nat × Int) (List It × List UInt8)
  | .error e => .error e
  | .ok (l', r') => .ok (l ++ l', r')
theorem rdsC_ok (l : List It) (k : Nat) (r r' : List UInt8) (x : It) (h : rd r = .ok (x, r')) : rdsC l (rds (k + 1) r) = rdsC (l ++ [x]) (rds k r') := by
  rw [rds, h]
  simp only []
  cases rds k r' with
  | error e => rfl
  | ok q => obtain ⟨a, b⟩ := q; simp [rdsC]
theorem rdsC_err (l : List It) (k : Nat) (r : List UInt8) (e : Int) (h : rd r = .error e) : rdsC l (rds (k + 1) r) = .error (r.length, e) := by
  rw [rds, h]; rfl
theorem rdsC_nil (q : Except (Nat × Int) (List It × List UInt8)) : rdsC [] q = q := by
  cases q with
  | error e => rfl
  | ok q => rfl
theorem oneB_length (x : It) : (oneB x).length = ib x := by
  obtain ⟨t, n, s⟩ := x
  cases t with
  | true => show (36 :: (two s.size ++ s.data.toList)).length = 3 + s.size; rw [List.length_cons, List.length_append, two_length, text_len]; omega
  | false => rfl
/-- the number of bytes that a list tells, the fault, in the four ways that decoding ends -/
theorem decB_long (b : List UInt8) (h : 65536 < b.length) : decB b = ([], 0, 2) := by unfold decB; rw [if_pos h]
theorem decB_short (b : List UInt8) (h1 : ¬ 65536 < b.length) (h : b.length < 2) : decB b = ([], 0, 30) := by unfold decB; rw [if_neg h1, if_pos h]
theorem decB_many (b : List UInt8) (h1 : ¬ 65536 < b.length) (h2 : ¬ b.length < 2) (h : 1000 < manyB b) : decB b = ([], 0, 2) := by unfold decB; rw [if_neg h1, if_neg h2, if_pos h]
theorem decB_err (b : List UInt8) (h1 : ¬ 65536 < b.length) (h2 : ¬ b.length < 2) (h3 : ¬ 1000 < manyB b) (r : Nat) (e : Int) (h : rds (manyB b) (b.drop 2) = .error (r, e)) : decB b = ([], b.length - r, e) := by
  unfold decB; rw [if_neg h1, if_neg h2, if_neg h3, h]
theorem decB_more (b : List UInt8) (h1 : ¬ 65536 < b.length) (h2 : ¬ b.length < 2) (h3 : ¬ 1000 < manyB b) (l : List It) (r : List UInt8) (h : rds (manyB b) (b.drop 2) = .ok (l, r)) (hr : r ≠ []) : decB b = ([], b.length - r.length, 31) := by
  unfold decB; rw [if_neg h1, if_neg h2, if_neg h3, h]; simp only []; rw [if_neg hr]
theorem decB_ok (b : List UInt8) (h1 : ¬ 65536 < b.length) (h2 : ¬ b.length < 2) (h3 : ¬ 1000 < manyB b) (l : List It) (h : rds (manyB b) (b.drop 2) = .ok (l, [])) : decB b = (l, 0, 0) := by
  unfold decB; rw [if_neg h1, if_neg h2, if_neg h3, h]; rfl
end Go.Proofs.YtmbgcpmapaedcaaDoor.Wi
namespace Go.Proofs.YtmbgcpmapaedcaaDoor.Wi
open Go.RowKit
theorem hide {p : Prop} (h : p) : Hid p := h
/-- a byte slice of the call's own has grown -/
structure App (base : Nat) (w : World) (v : Value) (w' : World) (v' : Value) (n : Nat) (xs : List Value) : Prop where
  own : w'.ownsRow base 5 1 v' n xs
  grow : w.grownBy w' v.ownBlock
  lies : v'.ownBlock = v.ownBlock ∨ ∃ g, v'.ownBlock = some g ∧ w.heap.size ≤ g
theorem App.trans {base : Nat} {w w1 w2 : World} {v v1 v2 : Value} {n1 n2 : Nat} {x1 x2 : List Value} (h : App base w v w1 v1 n1 x1) (k : App base w1 v1 w2 v2 n2 x2) : App base w v w2 v2 n2 x2 where
  own := k.own
  grow := ⟨k.grow.os.trans h.grow.os, k.grow.tape.trans h.grow.tape, k.grow.output.trans h.grow.output, Nat.le_trans h.grow.size k.grow.size, fun i hi hne => by
    have hs := h.grow.size
    refine (k.grow.block i (Nat.lt_of_lt_of_le hi hs) ?_).trans (h.grow.block i hi hne)
    rcases h.lies with e | ⟨g, e, hg⟩
    · rw [e]; exact hne
    · rw [e]; intro he; injection he with he; omega⟩
  lies := by
    have hs := h.grow.size
    rcases k.lies with e | ⟨g, e, hg⟩
    · rcases h.lies with e1 | ⟨g1, e1, hg1⟩
      · exact .inl (e.trans e1)
      · exact .inr ⟨g1, e.trans e1, hg1⟩
    · exact .inr ⟨g, e, by omega⟩
theorem App.pre {base : Nat} {w w1 w2 : World} {v v2 : Value} {n2 : Nat} {x2 : List Value} (hb : Below w.heap.size w w1) (k : App base w1 v w2 v2 n2 x2) : App base w v w2 v2 n2 x2 where
  own := k.own
  grow := ⟨k.grow.os.trans hb.os, k.grow.tape.trans hb.tape, k.grow.output.trans hb.output, Nat.le_trans hb.size k.grow.size, fun i hi hne =>
    (k.grow.block i (Nat.lt_of_lt_of_le hi hb.size) hne).trans (hb.block i hi)⟩
  lies := by
    have hs := hb.size
    rcases k.lies with e | ⟨g, e, hg⟩
    · exact .inl e
    · exact .inr ⟨g, e, by omega⟩
theorem App.of_lies {base : Nat} {w w1 w' : World} {v : Value} {g cap n : Nat} {xs : List Value} (hb : Below w.heap.size w w1) (hown : w'.ownsRow base 5 1 (.slice (some ⟨g, 0, none⟩) n cap) n xs) (hgr : w1.grownBy w' v.ownBlock) (hat : v.ownBlock = some g ∨ g = w1.heap.size) : App base w v w' (.slice (some ⟨g, 0, none⟩) n cap) n xs :=
  App.pre hb ⟨hown, hgr, by
    rcases hat with e | e
    · exact .inl e.symm
    · exact .inr ⟨g, rfl, by omega⟩⟩
theorem App.below {base : Nat} {w0 w w' : World} {v v' : Value} {n : Nat} {xs : List Value} (h : App base w v w' v' n xs) (hb : Below base w0 w) (hB : base ≤ w.heap.size) (hv : ∀ k, v.ownBlock = some k → base ≤ k) : Below base w0 w' := hb.grown h.grow hB hv
theorem App.cell {base : Nat} {w w' : World} {v v' : Value} {n : Nat} {xs : List Value} (h : App base w v w' v' n xs) {a : Addr} (hl : a.block < w.heap.size) (hne : some a.block ≠ v.ownBlock) : w'.cell? a = w.cell? a := h.grow.cell_far a hl hne
set_option maxRecDepth 100000 in
set_option maxHeartbeats 1600000 in
theorem appendPair_any (base : Nat) (v : Value) (k n : Nat) (xs : List Value) (w : World) (hown : w.ownsRow base 5 1 v k xs) (hbase : base ≤ w.heap.size) (hk : k ≤ 1000000000) (hn : n ≤ 65535) :
    Calls Tryd.prog 38 #[v, .int .i64 (n : Int)] w fun e w' => ∃ v', e = .returned v' ∧ App base w v w' v' (k + 2) (xs ++ (two n).map encB) := by
  obtain ⟨i0, hi, hz0, hz1, hz2⟩ := info_parts in5
  have HO := hide hown
  have n1 : (n : Int) ≤ 65535 := by omega
  have n0 : (0 : Int) ≤ (n : Int) := by omega
  have HT : Hid ((two n).map encB = [.int .u8 ((n : Int) / 256), .int .u8 ((n : Int) % 256)]) := by
    show [encB (UInt8.ofNat (n / 256)), encB (UInt8.ofNat (n % 256))] = _
    unfold encB
    rw [byte_of, byte_of, show n / 256 % 256 = n / 256 from by omega, show n % 256 % 256 = n % 256 from by omega]
    simp
  clear hown
  go_enter Tryd.func38, Tryd.ntmps38
  go_wp2_with (at_builtin; go_must (refine wpList_append_lies _ (by rfl) _ _ _ (by rfl) base 5 i0 _ 1 1 Tryd.underlying61 hi hz0 hz1 hz2 rfl (by omega) v k xs (by rfl) (HO.out.alloc _) ⟨w.heap.size, 0, none⟩ 2 2 [.int .u8 ((n : Int) / 256), .int .u8 ((n : Int) % 256)] (by rfl) (by rfl) (World.news_of_block (cs := #[.int .u8 ((n : Int) / 256), .int .u8 ((n : Int) % 256)]) (t := 5) (fr := (0, 0)) (heap_alloc_new w _)) (by simp [Value.oneCell']) (by omega) (by unfold maxLen; omega) (by omega) (by simp; omega) (w.heap.size + 1) (by simp) ?_; intro gg cap' w3 hown3 hgrow hat3 hlt3))
  go_ret
  refine ⟨_, rfl, App.of_lies ((Below.refl _ _).alloc (Nat.le_refl _) _) ?_ hgrow (by simpa using hat3)⟩
  rw [HT.out]; exact hown3
end Go.Proofs.YtmbgcpmapaedcaaDoor.Wi
namespace Go.Proofs.YtmbgcpmapaedcaaDoor.Wi
open Go.RowKit
theorem enc_byte (n : Nat) : encB (UInt8.ofNat n) = .int .u8 ((n % 256 : Nat) : Int) := by unfold encB; rw [byte_of]
theorem numB_take (x k : Nat) (h : k < 8) : ((numB x).take (k + 1)).map encB = ((numB x).take k).map encB ++ [.int .u8 ((x : Int) / 2 ^ (56 - 8 * k) % 256)] := by
  have e : ((x : Int) / 2 ^ (56 - 8 * k) % 256) = ((x / 2 ^ (56 - 8 * k) % 256 : Nat) : Int) := by simp
  rw [e, List.take_succ_eq_append_getElem (by rw [numB_length]; exact h), List.map_append]
  congr 1
  show [encB _] = _
  rw [← enc_byte]
  match k, h with
  | 0, _ => rfl
  | 1, _ => rfl
  | 2, _ => rfl
  | 3, _ => rfl
  | 4, _ => rfl
  | 5, _ => rfl
  | 6, _ => rfl
  | 7, _ => show [encB (UInt8.ofNat x)] = [encB (UInt8.ofNat (x / 2 ^ 0))]; rw [Nat.pow_zero, Nat.div_one]
set_option maxRecDepth 100000 in
set_option maxHeartbeats 1600000 in
theorem appendNumber_any (base : Nat) (v : Value) (m x : Nat) (xs : List Value) (w : World) (hown : w.ownsRow base 5 1 v m xs) (hbase : base ≤ w.heap.size) (hm : m ≤ 1000000000) (hx : x < 18446744073709551616) :
    Calls Tryd.prog 57 #[v, .int .u64 (x : Int)] w fun e w' => ∃ v', e = .returned v' ∧ App base w v w' v' (m + 8) (xs ++ (numB x).map encB) := by
  obtain ⟨i0, hi, hz0, hz1, hz2⟩ := info_parts in5
  have HO := hide hown
  have HX := hide hx
  clear hown hx
  go_enter Tryd.func57, Tryd.ntmps57
  go_wp2_with fail
  go_loopw [0, 5] (fun b i wr => ∃ (k : Nat) (b' : Value), k ≤ 8 ∧ i = .int .i64 (56 - 8 * (k : Int)) ∧ b' = b ∧ App base w v wr b' (m + k) (xs ++ ((numB x).take k).map encB)) (fun _ i _ => (intOf i + 8).toNat)
  case atStart => exact ⟨0, _, by omega, rfl, rfl, ⟨by simpa using HO.out, ⟨rfl, rfl, rfl, Nat.le_refl _, fun _ _ _ => rfl⟩, .inl rfl⟩⟩
  case round =>
    obtain ⟨k, b, hk, rfl, rfl, happ⟩ := hrel
    by_cases hlt : k < 8
    · have j0 : (0 : Int) ≤ 56 - 8 * (k : Int) := by omega
      have HA := hide happ
      have zr := happ.grow.size
      clear happ
      have HN := hide (numB_take x k hlt)
      have hbo : ∀ r, b.ownBlock = some r → base ≤ r := fun r hr => (HA.out.own.lt r hr).1
      go_wp2_with (at_builtin; go_must (refine wpList_append_lies _ (by rfl) _ _ _ (by rfl) base 5 i0 _ 1 1 Tryd.underlying61 hi hz0 hz1 hz2 rfl (by omega) b (m + k) _ (by rfl) (HA.out.own.alloc _) ⟨wr.heap.size, 0, none⟩ 1 1 [.int .u8 ((x : Int) / 2 ^ (56 - 8 * k) % 256)] (by rfl) (by rfl) (World.news_of_block (cs := #[.int .u8 ((x : Int) / 2 ^ (56 - 8 * k) % 256)]) (t := 5) (fr := (0, 0)) (heap_alloc_new wr _)) (by simp [Value.oneCell']) (by omega) (by unfold maxLen; omega) (by omega) (by simp; omega) (wr.heap.size + 1) (by simp) ?_; intro gg cap' w3 hown3 hgrow hat3 hlt3))
      go_roundw
      case rel =>
        refine ⟨k + 1, _, by omega, by go_num, rfl, ?_⟩
        have h := App.of_lies (w := wr) ((Below.refl _ _).alloc (Nat.le_refl _) _) hown3 hgrow (by simpa using hat3)
        rw [HN.out]
        have h2 := HA.out.trans h
        rw [List.append_assoc] at h2
        exact h2
      case measure => simp only [intOf]; omega
    · obtain rfl : k = 8 := by omega
      have HA := hide happ
      clear happ
      go_wp2
      go_ret
      exact ⟨_, rfl, HA.out⟩
end Go.Proofs.YtmbgcpmapaedcaaDoor.Wi
