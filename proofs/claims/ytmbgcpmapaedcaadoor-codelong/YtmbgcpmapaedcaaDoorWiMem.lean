/- Items in memory; small contracts: mayBe, itemBytes, the document's May and Fault. -/
import Derived.Test.YtmbgcpmapaedcaaDoorWiWire
import Derived.Test.YtmbgcpmapaedcaaDoorProg
import Derived.Deep.QuietTactic
import Derived.BigQuiet
namespace Go.Proofs.YtmbgcpmapaedcaaDoor.Wi
open Go.RowKit
def itA (x : It) : Value := .agg #[.bool x.t, .int .i64 x.n, .string x.s]
theorem text_len (s : ByteArray) : s.data.toList.length = s.size := by rw [Array.length_toList]; rfl
theorem ret_bool {a b : Bool} (h : a = b) : Ending.returned (.bool a) = .returned (.bool b) := by rw [h]
theorem ret_int {k : IntKind} {a b : Int} (h : a = b) : Ending.returned (.int k a) = .returned (.int k b) := by rw [h]
theorem text_ext {a b : ByteArray} (h : a.data.toList = b.data.toList) : a = b := ByteArray.ext (Array.toList_inj.1 h)
theorem empty_list (s : ByteArray) : s.toList.isEmpty = decide (s.size = 0) := by
  rw [ByteArray.toList_eq, ← text_len]
  cases s.data.toList <;> simp
theorem beq_text (a b : ByteArray) : (a.toList == b.toList) = decide (a = b) := by
  rw [ByteArray.toList_eq, ByteArray.toList_eq]
  by_cases h : a = b
  · rw [h, decide_eq_true rfl]; exact beq_self_eq_true _
  · rw [decide_eq_false h, beq_eq_false_iff_ne]; exact fun e => h (text_ext e)
theorem may_true (s : ByteArray) : decide ((s.size : Int) ≤ 65535) = mayB ⟨true, 0, s⟩ := by
  rw [Bool.eq_iff_iff]; simp [mayB]; omega
set_option maxHeartbeats 800000 in
theorem mayBe_any (x : It) (w : World) : Calls Tryd.prog 36 #[itA x] w fun e w' => e = .returned (.bool (mayB x)) ∧ Below w.heap.size w w' := by
  obtain ⟨t, n, s⟩ := x
  unfold itA
  cases t with
  | true =>
    by_cases hn : n = 0
    · subst hn
      go_enter Tryd.func36, Tryd.ntmps36
      go_wp2
      go_ret
      exact ⟨ret_bool (b := mayB ⟨true, 0, s⟩) (may_true s), (Below.refl _ _).alloc (Nat.le_refl _) _⟩
    · have hb : (n == 0) = false := by rw [beq_eq_false_iff_ne]; exact hn
      go_enter Tryd.func36, Tryd.ntmps36
      go_wp2
      go_ret
      refine ⟨ret_bool (b := mayB ⟨true, n, s⟩) ?_, (Below.refl _ _).alloc (Nat.le_refl _) _⟩
      unfold mayB
      simp [hn]
  | false =>
    go_enter Tryd.func36, Tryd.ntmps36
    go_wp2
    go_ret
    exact ⟨ret_bool (b := mayB ⟨false, n, s⟩) (empty_list s), (Below.refl _ _).alloc (Nat.le_refl _) _⟩
/-- how many bytes an item has -/
def ib (x : It) : Nat := if x.t then 3 + x.s.size else 9
set_option maxHeartbeats 800000 in
theorem itemBytes_any (x : It) (hs : x.s.size ≤ 140737488355328) (w : World) : Calls Tryd.prog 37 #[itA x] w fun e w' => e = .returned (.int .i64 (ib x : Int)) ∧ Below w.heap.size w w' := by
  obtain ⟨t, n, s⟩ := x
  have i1 : (s.size : Int) ≤ 140737488355328 := by have : s.size ≤ 140737488355328 := hs; omega
  unfold itA
  cases t with
  | true =>
    go_enter Tryd.func37, Tryd.ntmps37
    go_wp2
    go_ret
    refine ⟨ret_int (b := (ib ⟨true, n, s⟩ : Int)) ?_, (Below.refl _ _).alloc (Nat.le_refl _) _⟩
    show _ = (((3 + s.size : Nat)) : Int)
    omega
  | false =>
    go_enter Tryd.func37, Tryd.ntmps37
    go_wp2
    go_ret
    exact ⟨rfl, (Below.refl _ _).alloc (Nat.le_refl _) _⟩
end Go.Proofs.YtmbgcpmapaedcaaDoor.Wi
