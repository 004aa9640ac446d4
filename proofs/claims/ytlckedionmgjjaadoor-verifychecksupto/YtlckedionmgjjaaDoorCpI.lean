/- The book's CopyImage. -/
import Derived.Test.YtlckedionmgjjaaDoorMg22
import Derived.Test.YtlckedionmgjjaaDoorMg18
namespace Go.Proofs.YtlckedionmgjjaaDoor
open Go.RowKit
theorem inC_split : ∀ (l : List Ins) (j : Nat) (u : Value), (inC l)[j]? = some u → ∃ k i r, l[k]? = some i ∧ j = k * 4 + r ∧ r < 4 ∧ u = (#[Value.int .i64 i.op, .int .i64 i.a, .int .i64 i.b, .int .i64 i.n] : Array Value).getD r undef
  | [], j, u, h => by cases h
  | i :: l, 0, u, h => by obtain rfl := Option.some.inj h; exact ⟨0, i, 0, rfl, rfl, by omega, rfl⟩
  | i :: l, 1, u, h => by obtain rfl := Option.some.inj h; exact ⟨0, i, 1, rfl, rfl, by omega, rfl⟩
  | i :: l, 2, u, h => by obtain rfl := Option.some.inj h; exact ⟨0, i, 2, rfl, rfl, by omega, rfl⟩
  | i :: l, 3, u, h => by obtain rfl := Option.some.inj h; exact ⟨0, i, 3, rfl, rfl, by omega, rfl⟩
  | i :: l, j + 4, u, h => by
    have e : (inC (i :: l))[j + 4]? = (inC l)[j]? := rfl
    rw [e] at h
    obtain ⟨k, x, r, h1, h2, h3, h4⟩ := inC_split l j u h
    exact ⟨k + 1, x, r, h1, by omega, h3, h4⟩
theorem inC_all (l : List Ins) : ∀ u ∈ inC l, u.oneCell' = true := fun u hu => by
  unfold inC at hu
  rw [List.mem_flatMap] at hu
  obtain ⟨i, -, h⟩ := hu
  simp only [List.mem_cons, List.not_mem_nil, or_false] at h
  rcases h with rfl | rfl | rfl | rfl <;> rfl
/-- a slice's copy onto an empty slice of one's own: ints, instructions -/
theorem copy_ints (w : World) (base ty : Nat) (t e : TypeId) (ht : Tryd.prog.underlying t = some (.slice e)) (hin : (Tryd.prog.info? e).map (fun i => (i.zero, i.size, i.bytes)) = some (some (.int .i64 0), 1, 8)) (g : Nat) (hown : w.ownsRow base e 1 (.slice (some ⟨g, 0, none⟩) 0 0) 0 []) (u : Value) (l : List Int) (hL : ILst w u l) (hb : l.length ≤ 17592186044416) (hbase : base ≤ w.heap.size) :
    ∃ v' w', (Builtin.append_ #[t, t] ty #[.slice (some ⟨g, 0, none⟩) 0 0, u]).run Tryd.prog w = .ok v' w' ∧ w'.ownsRow base e 1 v' l.length (intC l) ∧ Below w.heap.size w w' := by
  obtain ⟨i0, hi, hz0, hz1, hz2⟩ := info_parts hin
  obtain ⟨a, b, off, c, rfl, hA, hI⟩ := hL
  by_cases hn : 0 < l.length
  · obtain ⟨_, rfl⟩ := hA hn
    refine app_fresh w base t ty e i0 _ 1 8 ht hi hz0 hz1 hz2 rfl (by omega) g hown _ l.length c (intC l) (by rw [intC_length]; omega) (fun j x hx => ?_) (intC_one l) (by unfold maxLen; omega) (by omega) hbase
    rw [intC_get] at hx
    cases hy : l[j]? with
    | none => rw [hy] at hx; cases hx
    | some y =>
      rw [hy] at hx
      have hx : Value.int .i64 y = x := by simpa using hx
      subst hx
      rw [addr_at]
      exact hI j y hy
  · have hl : l = [] := List.eq_nil_of_length_eq_zero (by omega)
    subst hl
    cases a with
    | some ad => exact app_fresh w base t ty e i0 _ 1 8 ht hi hz0 hz1 hz2 rfl (by omega) g hown ad 0 c [] rfl (fun j x hx => by cases hx) (fun x hx => by cases hx) (by unfold maxLen; omega) (by omega) hbase
    | none =>
      refine ⟨_, w, ?_, hown, Below.refl _ _⟩
      simp [Builtin.append_, run_underlying ht, go_sem, sizeOf, typeInfo, hi]
theorem copy_ins (w : World) (base ty : Nat) (g : Nat) (hown : w.ownsRow base 38 4 (.slice (some ⟨g, 0, none⟩) 0 0) 0 []) (u : Value) (l : List Ins) (hL : ISt w u l) (hb : l.length ≤ 4398046511104) (hbase : base ≤ w.heap.size) :
    ∃ v' w', (Builtin.append_ #[24, 24] ty #[.slice (some ⟨g, 0, none⟩) 0 0, u]).run Tryd.prog w = .ok v' w' ∧ w'.ownsRow base 38 4 v' l.length (inC l) ∧ Below w.heap.size w w' := by
  obtain ⟨i0, hi, hz0, hz1, hz2⟩ := info_parts inX
  obtain ⟨a, b, off, c, rfl, hA, hI⟩ := hL
  by_cases hn : 0 < l.length
  · obtain ⟨_, rfl⟩ := hA hn
    refine app_fresh w base 24 ty 38 i0 _ 4 32 Tryd.underlying24 hi hz0 hz1 hz2 rfl (by omega) g hown _ l.length c (inC l) (by rw [inC_length]; omega) (fun j x hx => ?_) (inC_all l) (by unfold maxLen; omega) (by omega) hbase
    obtain ⟨k, i, r, h1, rfl, h3, rfl⟩ := inC_split l j x hx
    obtain ⟨e0, e1, e2, e3⟩ := hI k i h1
    rw [addr_at]
    have : r = 0 ∨ r = 1 ∨ r = 2 ∨ r = 3 := by omega
    rcases this with rfl | rfl | rfl | rfl
    · exact e0
    · exact e1
    · exact e2
    · exact e3
  · have hl : l = [] := List.eq_nil_of_length_eq_zero (by omega)
    subst hl
    cases a with
    | some ad => exact app_fresh w base 24 ty 38 i0 _ 4 32 Tryd.underlying24 hi hz0 hz1 hz2 rfl (by omega) g hown ad 0 c [] rfl (fun j x hx => by cases hx) (fun x hx => by cases hx) (by unfold maxLen; omega) (by omega) hbase
    | none =>
      refine ⟨_, w, ?_, hown, Below.refl _ _⟩
      simp [Builtin.append_, run_underlying Tryd.underlying24, go_sem, sizeOf, typeInfo, hi]
end Go.Proofs.YtlckedionmgjjaaDoor
