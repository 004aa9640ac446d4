/- How many values a list of items holds at least. -/
import Derived.Test.YtelhfdhgcojmlaaDoorFrame
namespace Go.Proofs.YtelhfdhgcojmlaaDoor
theorem bulk_one {H : Type} (d : DataW H) : 1 ≤ Rows.uptoBulk d := by
  match d with
  | .lit (.string b) => simp [Rows.uptoBulk]
  | .lit (.int k n) => simp [Rows.uptoBulk]
  | .lit (.bool b) => simp [Rows.uptoBulk]
  | .lit (.float k n) => simp [Rows.uptoBulk]
  | .lit .nil => simp [Rows.uptoBulk]
  | .nil => simp [Rows.uptoBulk]
  | .ptr d => simp [Rows.uptoBulk]
  | .slice e s => simp [Rows.uptoBulk]
  | .agg p => simp [Rows.uptoBulk]
  | .iface t d => simp [Rows.uptoBulk]
  | .map e => simp [Rows.uptoBulk]
  | .held h => simp [Rows.uptoBulk]
theorem bulk_ge {H : Type} (el : List (DataW H)) : el.length ≤ Rows.uptoBulkAll el := by
  induction el with
  | nil => simp [Rows.uptoBulkAll]
  | cons d l ih => have := bulk_one d; simp only [List.length_cons, Rows.uptoBulkAll]; omega
theorem bulk_items {H : Type} {d : DataW H} {len : Nat} (h : (d = .nil ∧ len = 0) ∨ ∃ el sp, d = .slice el sp ∧ el.length = len) : len ≤ Rows.uptoBulk d := by
  rcases h with ⟨_, rfl⟩ | ⟨el, sp, rfl, rfl⟩
  · omega
  · have := bulk_ge el; simp only [Rows.uptoBulk]; omega
theorem bulk_two {H : Type} {d e : DataW H} {m n : Nat} (h : Rows.uptoBulkAll [d, e] ≤ 1048576) (hd : (d = .nil ∧ m = 0) ∨ ∃ el sp, d = .slice el sp ∧ el.length = m) (he : (e = .nil ∧ n = 0) ∨ ∃ el sp, e = .slice el sp ∧ el.length = n) : m + n ≤ 1048576 := by
  have h1 := bulk_items hd
  have h2 := bulk_items he
  simp only [Rows.uptoBulkAll] at h
  omega
end Go.Proofs.YtelhfdhgcojmlaaDoor
