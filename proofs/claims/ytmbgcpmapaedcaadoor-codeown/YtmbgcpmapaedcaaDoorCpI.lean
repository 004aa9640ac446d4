/- The book's CopyImage. -/
import Derived.Test.YtmbgcpmapaedcaaDoorMg23
import Derived.Test.YtmbgcpmapaedcaaDoorMg12
namespace Go.Proofs.YtmbgcpmapaedcaaDoor
open Go.RowKit
theorem in23 : (Tryd.prog.info? 23).map (fun i => (i.zero, i.size, i.bytes)) = some (some (.agg #[.int .i64 0, .int .i64 0, .int .i64 0, .int .i64 0]), 4, 32) := by kernel_rfl
/-- a list's cells -/
def inC (l : List Ins) : List Value := l.flatMap fun i => [.int .i64 i.op, .int .i64 i.a, .int .i64 i.b, .int .i64 i.n]
theorem inC_one (l : List Ins) (i : Ins) : inC (l ++ [i]) = inC l ++ [.int .i64 i.op, .int .i64 i.a, .int .i64 i.b, .int .i64 i.n] := by
  unfold inC; rw [List.flatMap_append]; simp
theorem inC_length (l : List Ins) : (inC l).length = 4 * l.length := by
  unfold inC
  induction l with
  | nil => rfl
  | cons i l ih => rw [List.flatMap_cons, List.length_append, ih, List.length_cons]; simp; omega
theorem inC_get : ∀ (l : List Ins) (k : Nat) (i : Ins), l[k]? = some i → (inC l)[k * 4]? = some (.int .i64 i.op) ∧ (inC l)[k * 4 + 1]? = some (.int .i64 i.a) ∧ (inC l)[k * 4 + 2]? = some (.int .i64 i.b) ∧ (inC l)[k * 4 + 3]? = some (.int .i64 i.n)
  | [], k, i, h => by cases h
  | j :: l, 0, i, h => by obtain rfl := Option.some.inj h; exact ⟨rfl, rfl, rfl, rfl⟩
  | j :: l, k + 1, i, h => by
    have ih := inC_get l k i h
    have e : ∀ m, (inC (j :: l))[m + 4]? = (inC l)[m]? := fun m => rfl
    refine ⟨?_, ?_, ?_, ?_⟩
    · rw [show (k + 1) * 4 = k * 4 + 4 by omega, e]; exact ih.1
    · rw [show (k + 1) * 4 + 1 = k * 4 + 1 + 4 by omega, e]; exact ih.2.1
    · rw [show (k + 1) * 4 + 2 = k * 4 + 2 + 4 by omega, e]; exact ih.2.2.1
    · rw [show (k + 1) * 4 + 3 = k * 4 + 3 + 4 by omega, e]; exact ih.2.2.2
theorem ISt.nil (w : World) (c : Nat) : ISt w (.slice none 0 c) [] := ⟨none, 0, 0, c, rfl, fun h => absurd h (Nat.lt_irrefl 0), fun i x hx => by cases hx⟩
theorem ISt.of_owns {w : World} {base : Nat} {v : Value} {l : List Ins} (h : w.ownsRow base 23 4 v l.length (inC l)) : ISt w v l := by
  rcases h.2 with ⟨hv, h0⟩ | ⟨g, cap, cur, hv, hb, hg, hn, hm, hc, ht⟩
  · obtain rfl := List.eq_nil_of_length_eq_zero h0
    subst hv
    exact ISt.nil w 0
  · subst hv
    refine ⟨_, g, 0, cap, rfl, fun _ => ⟨(Array.getElem?_eq_some_iff.1 hg).1, rfl⟩, fun i x hx => ?_⟩
    have hi : i < l.length := (List.getElem?_eq_some_iff.1 hx).1
    obtain ⟨h0, h1, h2, h3⟩ := inC_get l i x hx
    rw [Nat.zero_add]
    exact ⟨(h.cellAt _ (by omega)).trans h0, (h.cellAt _ (by omega)).trans h1, (h.cellAt _ (by omega)).trans h2, (h.cellAt _ (by omega)).trans h3⟩
theorem ILst.of_ownsE {w : World} {base e : Nat} {v : Value} {l : List Int} (h : w.ownsRow base e 1 v l.length (intC l)) : ILst w v l := by
  rcases h.2 with ⟨hv, h0⟩ | ⟨g, cap, cur, hv, hb, hg, hn, hm, hc, ht⟩
  · obtain rfl := List.eq_nil_of_length_eq_zero h0
    subst hv
    exact ILst.nil w 0
  · subst hv
    refine ⟨_, g, 0, cap, rfl, fun _ => ⟨(Array.getElem?_eq_some_iff.1 hg).1, rfl⟩, fun i x hx => ?_⟩
    have hi : i < l.length := (List.getElem?_eq_some_iff.1 hx).1
    rw [Nat.zero_add, h.cellAt i (by omega), intC_get, hx]; rfl
theorem inC_split : ∀ (l : List Ins) (j : Nat) (u : Value), (inC l)[j]? = some u → ∃ k i r, l[k]? = some i ∧ j = k * 4 + r ∧ r < 4 ∧ u = (#[Value.int .i64 i.op, .int .i64 i.a, .int .i64 i.b, .int .i64 i.n] : Array Value).getD r undef
  | [], j, u, h => by cases h
  | i :: l, 0, u, h => by obtain rfl := Option.some.inj h; exact ⟨0, i, 0, rfl, rfl, by omega, rfl⟩
  | i :: l, 1, u, h => by obtain rfl := Option.some.inj h; exact ⟨0, i, 1, rfl, rfl, by omega, rfl⟩
  | i :: l, 2, u, h => by obtain rfl := Option.some.inj h; exact ⟨0, i, 2, rfl, rfl, by omega, rfl⟩
  | i :: l, 3, u, h => by obtain rfl := Option.some.inj h; exact ⟨0, i, 3, rfl, rfl, by omega, rfl⟩
  | i :: l, j + 4, u, h => by
    have e : (inC (i :: l))[j + 4]? = (inC l)[j]? := rfl
    rw [e] at h
    obtain ⟨k, x, r, h1, h2, h3, h4⟩ := inC_split l j u h
    exact ⟨k + 1, x, r, h1, by omega, h3, h4⟩
theorem inC_all (l : List Ins) : ∀ u ∈ inC l, u.oneCell' = true := fun u hu => by
  unfold inC at hu
  rw [List.mem_flatMap] at hu
  obtain ⟨i, -, h⟩ := hu
  simp only [List.mem_cons, List.not_mem_nil, or_false] at h
  rcases h with rfl | rfl | rfl | rfl <;> rfl
/-- a slice's copy onto an empty slice of one's own: ints, instructions -/
theorem copy_ints (w : World) (base ty : Nat) (t e : TypeId) (ht : Tryd.prog.underlying t = some (.slice e)) (hin : (Tryd.prog.info? e).map (fun i => (i.zero, i.size, i.bytes)) = some (some (.int .i64 0), 1, 8)) (g : Nat) (hown : w.ownsRow base e 1 (.slice (some ⟨g, 0, none⟩) 0 0) 0 []) (u : Value) (l : List Int) (hL : ILst w u l) (hb : l.length ≤ 17592186044416) (hbase : base ≤ w.heap.size) :
    ∃ v' w', (Builtin.append_ #[t, t] ty #[.slice (some ⟨g, 0, none⟩) 0 0, u]).run Tryd.prog w = .ok v' w' ∧ w'.ownsRow base e 1 v' l.length (intC l) ∧ Below w.heap.size w w' := by
  obtain ⟨i0, hi, hz0, hz1, hz2⟩ := info_parts hin
  obtain ⟨a, b, off, c, rfl, hA, hI⟩ := hL
  by_cases hn : 0 < l.length
  · obtain ⟨_, rfl⟩ := hA hn
    refine app_fresh w base t ty e i0 _ 1 8 ht hi hz0 hz1 hz2 rfl (by omega) g hown _ l.length c (intC l) (by rw [intC_length]; omega) (fun j x hx => ?_) (intC_one l) (by unfold maxLen; omega) (by omega) hbase
    rw [intC_get] at hx
    cases hy : l[j]? with
    | none => rw [hy] at hx; cases hx
    | some y =>
      rw [hy] at hx
      have hx : Value.int .i64 y = x := by simpa using hx
      subst hx
      rw [addr_at]
      exact hI j y hy
  · have hl : l = [] := List.eq_nil_of_length_eq_zero (by omega)
    subst hl
    cases a with
    | some ad => exact app_fresh w base t ty e i0 _ 1 8 ht hi hz0 hz1 hz2 rfl (by omega) g hown ad 0 c [] rfl (fun j x hx => by cases hx) (fun x hx => by cases hx) (by unfold maxLen; omega) (by omega) hbase
    | none =>
      refine ⟨_, w, ?_, hown, Below.refl _ _⟩
      simp [Builtin.append_, run_underlying ht, go_sem, sizeOf, typeInfo, hi]
theorem copy_ins (w : World) (base ty : Nat) (g : Nat) (hown : w.ownsRow base 23 4 (.slice (some ⟨g, 0, none⟩) 0 0) 0 []) (u : Value) (l : List Ins) (hL : ISt w u l) (hb : l.length ≤ 4398046511104) (hbase : base ≤ w.heap.size) :
    ∃ v' w', (Builtin.append_ #[29, 29] ty #[.slice (some ⟨g, 0, none⟩) 0 0, u]).run Tryd.prog w = .ok v' w' ∧ w'.ownsRow base 23 4 v' l.length (inC l) ∧ Below w.heap.size w w' := by
  obtain ⟨i0, hi, hz0, hz1, hz2⟩ := info_parts in23
  obtain ⟨a, b, off, c, rfl, hA, hI⟩ := hL
  by_cases hn : 0 < l.length
  · obtain ⟨_, rfl⟩ := hA hn
    refine app_fresh w base 29 ty 23 i0 _ 4 32 Tryd.underlying29 hi hz0 hz1 hz2 rfl (by omega) g hown _ l.length c (inC l) (by rw [inC_length]; omega) (fun j x hx => ?_) (inC_all l) (by unfold maxLen; omega) (by omega) hbase
    obtain ⟨k, i, r, h1, rfl, h3, rfl⟩ := inC_split l j x hx
    obtain ⟨e0, e1, e2, e3⟩ := hI k i h1
    rw [addr_at]
    have : r = 0 ∨ r = 1 ∨ r = 2 ∨ r = 3 := by omega
    rcases this with rfl | rfl | rfl | rfl
    · exact e0
    · exact e1
    · exact e2
    · exact e3
  · have hl : l = [] := List.eq_nil_of_length_eq_zero (by omega)
    subst hl
    cases a with
    | some ad => exact app_fresh w base 29 ty 23 i0 _ 4 32 Tryd.underlying29 hi hz0 hz1 hz2 rfl (by omega) g hown ad 0 c [] rfl (fun j x hx => by cases hx) (fun x hx => by cases hx) (by unfold maxLen; omega) (by omega) hbase
    | none =>
      refine ⟨_, w, ?_, hown, Below.refl _ _⟩
      simp [Builtin.append_, run_underlying Tryd.underlying29, go_sem, sizeOf, typeInfo, hi]
end Go.Proofs.YtmbgcpmapaedcaaDoor
