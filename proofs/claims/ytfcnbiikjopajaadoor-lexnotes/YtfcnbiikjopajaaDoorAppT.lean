/- Lists of tokens put together by append. -/
import Derived.Test.YtfcnbiikjopajaaDoorTLst
namespace Go.Proofs.YtfcnbiikjopajaaDoor
open Go.RowKit
theorem owns_cap {w : World} {base g n cap : Nat} {xs : List Value} (h : w.ownsRow base 41 5 (.slice (some ⟨g, 0, none⟩) n cap) n xs) : n ≤ cap := by
  rcases h.2 with ⟨hv, _⟩ | ⟨g', cap', cur, hv, hb, hg, hn, hm, hc, ht⟩
  · cases hv
  · injection hv with _ _ e
    omega
theorem run_append_none (ty g n cap c : Nat) (hn : n ≤ cap) (W : World) : (Builtin.append_ #[22, 22] ty #[.slice (some ⟨g, 0, none⟩) n cap, .slice none 0 c]).run Tryd.prog W = .ok (.slice (some ⟨g, 0, none⟩) n cap) W := by
  simp [Builtin.append_, go_sem, hn]
theorem run_append_toks (w : World) (base ty g n cap tot : Nat) (xs : List Value) (hown : w.ownsRow base 41 5 (.slice (some ⟨g, 0, none⟩) n cap) n xs) (u : Value) (l : List Tv) (hL : Lst w u l) (htot : n + l.length = tot) (hbytes : tot ≤ 1048576) (hbase : base ≤ w.heap.size) :
    ∃ g' cap' w', (Builtin.append_ #[22, 22] ty #[.slice (some ⟨g, 0, none⟩) n cap, u]).run Tryd.prog w = .ok (.slice (some ⟨g', 0, none⟩) tot cap') w' ∧ w'.ownsRow base 41 5 (.slice (some ⟨g', 0, none⟩) tot cap') tot (xs ++ tvsC l) ∧ w.grownBy w' (some g) := by
  obtain ⟨i0, hi, hz0, hz1, hz2⟩ := info_parts in41
  obtain ⟨a, b, off, c, rfl, hA, hI⟩ := hL
  subst htot
  have main : ∀ ad : Addr, a = some ad → (∀ j x, (tvsC l)[j]? = some x → w.cell? (ad.add j) = some x) → ∃ g' cap' w', (Builtin.append_ #[22, 22] ty #[.slice (some ⟨g, 0, none⟩) n cap, .slice a l.length c]).run Tryd.prog w = .ok (.slice (some ⟨g', 0, none⟩) (n + l.length) cap') w' ∧ w'.ownsRow base 41 5 (.slice (some ⟨g', 0, none⟩) (n + l.length) cap') (n + l.length) (xs ++ tvsC l) ∧ w.grownBy w' (some g) := fun ad had hc => by
    subst had
    obtain ⟨v', w', hr, h2, h3, h4, _⟩ := run_append_own_at (P := Tryd.prog) w base 22 ty 41 i0 _ 5 48 Tryd.underlying22 hi hz0 hz1 hz2 rfl (by omega) _ n xs hown ad l.length c (tvsC l) (tvsC_length l) hc (tvsC_one l) (by unfold maxLen; omega) (by omega) hbase
    rcases h2.2 with ⟨hv, _⟩ | ⟨g', cap', cur, hv, _⟩
    · exact absurd (h4.1 hv).1 (by intro h; cases h)
    · subst hv
      exact ⟨g', cap', w', hr, h2, h3⟩
  by_cases hn : 0 < l.length
  · obtain ⟨_, rfl⟩ := hA hn
    exact main _ rfl (tv_cells hI)
  · have hl : l = [] := List.eq_nil_of_length_eq_zero (by omega)
    subst hl
    cases a with
    | some ad => exact main ad rfl (fun j x hx => by cases hx)
    | none =>
      refine ⟨g, cap, w, run_append_none ty g n cap c (owns_cap hown) w, ?_, ⟨rfl, rfl, rfl, Nat.le_refl _, fun _ _ _ => rfl⟩⟩
      show w.ownsRow base 41 5 (.slice (some ⟨g, 0, none⟩) n cap) n (xs ++ [])
      rw [List.append_nil]; exact hown
theorem wpList_append_toks {w : World} {ops : Array Oper} {rest : List Oper} {o : Oper} {a : Act} {Q : Exit → Act → World → Prop} (hgd : Region.wanted o (yielded ops a.tmps) = true) (s x : Operand)
    (ho : o.op = .call { callee := .builtin .append, args := #[s, x], argTypes := #[22, 22] })
    (base g n cap tot : Nat) (xs : List Value) (hs : a.eval s = .slice (some ⟨g, 0, none⟩) n cap) (hown : w.ownsRow base 41 5 (.slice (some ⟨g, 0, none⟩) n cap) n xs) (u : Value) (l : List Tv) (hx : a.eval x = u) (hL : Lst w u l) (htot : n + l.length = tot) (hbytes : tot ≤ 1048576) (hbase : base ≤ w.heap.size)
    (h : ∀ g' cap' w', w'.ownsRow base 41 5 (.slice (some ⟨g', 0, none⟩) tot cap') tot (xs ++ tvsC l) → w.grownBy w' (some g) → wpList Tryd.prog ops Q rest (a.put o.dst (.slice (some ⟨g', 0, none⟩) tot cap')) w') : wpList Tryd.prog ops Q (o :: rest) a w := by
  refine wpList_step fun K hK => ?_
  rw [if_pos hgd]
  obtain ⟨g', cap', w', hr, h2, h3⟩ := run_append_toks w base o.type g n cap tot xs hown u l hL htot hbytes hbase
  unfold Oper.wp execOp
  simp only [ho, resolve, invoke, builtin, Sem.run_bind, Sem.run_pure, Result.andThen_ok, List.map_toArray, List.map_cons, List.map_nil, hs, hx, hr]
  exact hK _ _ (h g' cap' w' h2 h3)
end Go.Proofs.YtfcnbiikjopajaaDoor
