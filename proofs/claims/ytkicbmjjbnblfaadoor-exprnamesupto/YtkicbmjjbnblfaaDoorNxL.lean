/- ExprNames, as the row hands it its arguments; how many values a list of parts holds at least. -/
import Derived.Test.YtkicbmjjbnblfaaDoorFrmP
import Derived.Test.YtkicbmjjbnblfaaDoorNxW
namespace Go.Proofs.YtkicbmjjbnblfaaDoor
open Go.RowKit
theorem bulk_one {H : Type} (d : DataW H) : 1 ≤ Rows.uptoBulk d := by
  match d with
  | .lit (.string b) => simp [Rows.uptoBulk]
  | .lit (.int k n) => simp [Rows.uptoBulk]
  | .lit (.bool b) => simp [Rows.uptoBulk]
  | .lit (.float k n) => simp [Rows.uptoBulk]
  | .lit .nil => simp [Rows.uptoBulk]
  | .nil => simp [Rows.uptoBulk]
  | .ptr d => simp [Rows.uptoBulk]
  | .slice e s => simp [Rows.uptoBulk]
  | .agg p => simp [Rows.uptoBulk]
  | .iface t d => simp [Rows.uptoBulk]
  | .map e => simp [Rows.uptoBulk]
  | .held h => simp [Rows.uptoBulk]
theorem bulk_ge {H : Type} (el : List (DataW H)) : el.length ≤ Rows.uptoBulkAll el := by
  induction el with
  | nil => simp [Rows.uptoBulkAll]
  | cons d l ih => have := bulk_one d; simp only [List.length_cons, Rows.uptoBulkAll]; omega
theorem bulk_parts {H : Type} {d : DataW H} {len : Nat} {l : List Pv} (h : (d = .nil ∧ len = 0) ∨ ∃ el sp, d = .slice el sp ∧ el = l.map pvD) (hl : l.length = len) : l.length ≤ Rows.uptoBulk d := by
  rcases h with ⟨_, h0⟩ | ⟨el, sp, rfl, rfl⟩
  · omega
  · have := bulk_ge (H := H) (l.map pvD); rw [List.length_map] at this; simp only [Rows.uptoBulk]; omega
theorem bulk_names {H : Type} {d e f : DataW H} {m n : Nat} {a b : List Pv} (h : Rows.uptoBulkAll [d, e, f] ≤ 1048576) (hd : (d = .nil ∧ m = 0) ∨ ∃ el sp, d = .slice el sp ∧ el = a.map pvD) (ha : a.length = m) (he : (e = .nil ∧ n = 0) ∨ ∃ el sp, e = .slice el sp ∧ el = b.map pvD) (hb : b.length = n) : a.length ≤ 1048576 ∧ b.length ≤ 1048576 := by
  have h1 := bulk_parts hd ha
  have h2 := bulk_parts he hb
  simp only [Rows.uptoBulkAll] at h
  omega
theorem nx_said (av : Value) (a : List Pv) (bv : Value) (b : List Pv) (z : Int) {w' : World} (hA : PLst w' av a) (_hac : ∀ a n cap, av = .slice a n cap → n ≤ cap) (_hoa : OkP a) (hB : PLst w' bv b) (_hbc : ∀ a n cap, bv = .slice a n cap → n ≤ cap) (_hob : OkP b) (_hz : (Lit.int .i64 z).wf = true) (w : World) (hg : Glo w) (hk : a.length ≤ 1048576 ∧ b.length ≤ 1048576) (e : w' = w := by rfl) : Calls Tryd.prog 7 #[av, bv, .int .i64 z] w fun e w' => e = .returned (.bool true) ∧ Below w.heap.size w w' := by
  subst e
  exact nx_row av bv a b z w' hA hB hk.1 hk.2 hg
end Go.Proofs.YtkicbmjjbnblfaaDoor
