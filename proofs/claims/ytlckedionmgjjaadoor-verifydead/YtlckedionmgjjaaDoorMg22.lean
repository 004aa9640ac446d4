/- A drawn region by what its operations keep, whatever came up; a copy onto an empty slice of one's own. | The book's CopyImage. -/
import Derived.Test.YtlckedionmgjjaaDoorMg21
import Derived.Test.YtlckedionmgjjaaDoorMg1
import Derived.Test.YtlckedionmgjjaaDoorMg14
namespace Go.Proofs.YtlckedionmgjjaaDoor
open Go.RowKit
section
variable {P : Program} {ops : Array Oper} {Q : Exit → Act → World → Prop} {md : Region.Mode} {S : World → Prop} {L : Nat}
/-- how many operations have not come up -/
def cntU (n : Nat) (listed : Array Bool) : Nat := (List.range n).countP fun j => !listed.getD j true
theorem count_lt (p q : Nat → Bool) : ∀ l : List Nat, (∀ j, q j = true → p j = true) → (∃ i ∈ l, p i = true ∧ q i = false) → l.countP q < l.countP p
  | [], _, h => by obtain ⟨i, hi, _⟩ := h; cases hi
  | x :: l, hle, h => by
    have hmono : l.countP q ≤ l.countP p := List.countP_mono_left fun j _ => hle j
    rw [List.countP_cons, List.countP_cons]
    obtain ⟨i, hi, h1, h2⟩ := h
    rcases List.mem_cons.1 hi with rfl | hi
    · rw [h1, h2]; simp; omega
    · have := count_lt p q l hle ⟨i, hi, h1, h2⟩
      have hx := hle x
      cases hq : q x
      · simp; omega
      · rw [hx hq]; simp; omega
theorem set_getD {listed : Array Bool} {i j : Nat} : (listed.setIfInBounds i true).getD j true = (if j = i then true else listed.getD j true) := by
  by_cases h : j = i
  · subst h
    rw [if_pos rfl]
    rcases Nat.lt_or_ge j listed.size with h' | h'
    · simp [h']
    · simp [h']
  · rw [if_neg h, getD_set_ne true (Ne.symm h)]
theorem wpL_inv (I : Array Bool → Act → World → Prop)
    (step : ∀ listed a w i, I listed a w → i ∈ Region.ready md ops listed → wpOp P ops Q i (fun a' w' => (i ≠ L → S w') ∧ I (listed.setIfInBounds i true) a' w') a w)
    (fin : ∀ listed a w, I listed a w → Region.ready md ops listed = [] → Q .normal a w) :
    ∀ (fuel : Nat) (listed : Array Bool) (a : Act) (w : World), cntU ops.size listed ≤ fuel → I listed a w → wpL P md ops Q S L fuel listed a w
  | 0, listed, a, w, hc, hI => by
    have h0 : Region.ready md ops listed = [] := by
      cases hr : Region.ready md ops listed with
      | nil => rfl
      | cons i r =>
        have hi : i ∈ Region.ready md ops listed := by rw [hr]; exact List.mem_cons_self
        obtain ⟨hu, o, ho, -⟩ := mem_ready.1 hi
        have hlt : i < ops.size := (Array.getElem?_eq_some_iff.1 ho).1
        have : 0 < cntU ops.size listed := List.countP_pos_iff.2 ⟨i, List.mem_range.2 hlt, by rw [hu]; rfl⟩
        omega
    exact ⟨h0, fin listed a w hI h0⟩
  | fuel + 1, listed, a, w, hc, hI => by
    refine ⟨fun h0 => fin listed a w hI h0, fun i hi => wpOp_mono (fun a' w' h' => ⟨h'.1, wpL_inv I step fin fuel _ a' w' ?_ h'.2⟩) (step listed a w i hI hi)⟩
    obtain ⟨hu, o, ho, -⟩ := mem_ready.1 hi
    have hlt : i < ops.size := (Array.getElem?_eq_some_iff.1 ho).1
    have : cntU ops.size (listed.setIfInBounds i true) < cntU ops.size listed := by
      refine count_lt _ _ _ (fun j hj => ?_) ⟨i, List.mem_range.2 hlt, by rw [hu]; rfl, by rw [set_getD, if_pos rfl]; rfl⟩
      rw [set_getD] at hj
      split at hj
      · cases hj
      · exact hj
    omega
end
/-- a copy onto an empty slice of one's own -/
theorem app_fresh {P : Program} (w : World) (base : Nat) (t ty e : TypeId) (i : TypeInfo) (z : Value) (size bytes : Nat) (ht : P.underlying t = some (.slice e)) (hi : P.info? e = some i) (hz : i.zero = some z)
    (hsize : i.size = size) (hby : i.bytes = bytes) (hzs : z.cells.size = size) (hsz : 0 < size) (g : Nat) (hown : w.ownsRow base e size (.slice (some ⟨g, 0, none⟩) 0 0) 0 [])
    (a : Addr) (m c : Nat) (news : List Value) (hl : news.length = m * size) (hnews : ∀ j u, news[j]? = some u → w.cell? (a.add j) = some u) (h1 : ∀ u ∈ news, u.oneCell' = true)
    (h63 : m ≤ maxLen) (hbytes : (m + m / 4 + 192) * bytes ≤ 281474976710656) (hbase : base ≤ w.heap.size) :
    ∃ v' w', (Builtin.append_ #[t, t] ty #[.slice (some ⟨g, 0, none⟩) 0 0, .slice (some a) m c]).run P w = .ok v' w' ∧ w'.ownsRow base e size v' m news ∧ Below w.heap.size w w' := by
  by_cases hm : m = 0
  · subst hm
    have hn : news = [] := List.eq_nil_of_length_eq_zero (by simpa using hl)
    subst hn
    refine ⟨_, w, ?_, hown, Below.refl _ _⟩
    simp [Builtin.append_, run_underlying ht, sizeOf, typeInfo, hi, Builtin.lenOf, Builtin.firstCells, loadCells, loadCellsFrom, storeCells]
  · obtain ⟨v', w', hr, h2, -, -⟩ := run_append_own_wide (P := P) w base t ty e i z size bytes ht hi hz hsize hby hzs hsz _ 0 [] hown a m c news hl hnews h1 (by omega) (by rw [Nat.zero_add]; exact hbytes) hbase
    have hr2 := run_append_grow (P := P) w t ty e i z ht hi hz ⟨g, 0, none⟩ 0 0 [] (by simp) (fun j v h => by cases h) a m c news (by rw [hsize]; exact hl) hnews (by omega) (by simp only [maxLen] at h63; omega) (by rw [Nat.zero_add, hby]; exact growslice_fits_wide (by omega) hbytes)
    rw [hr] at hr2
    injection hr2 with e1 e2
    refine ⟨v', w', hr, by simpa using h2, ?_⟩
    rw [e2]
    exact ((Below.refl w.heap.size w).drew).alloc (Nat.le_refl _) _
end Go.Proofs.YtlckedionmgjjaaDoor
namespace Go.Proofs.YtlckedionmgjjaaDoor
open Go.RowKit
theorem inC_split : ∀ (l : List Ins) (j : Nat) (u : Value), (inC l)[j]? = some u → ∃ k i r, l[k]? = some i ∧ j = k * 4 + r ∧ r < 4 ∧ u = (#[Value.int .i64 i.op, .int .i64 i.a, .int .i64 i.b, .int .i64 i.n] : Array Value).getD r undef
  | [], j, u, h => by cases h
  | i :: l, 0, u, h => by obtain rfl := Option.some.inj h; exact ⟨0, i, 0, rfl, rfl, by omega, rfl⟩
  | i :: l, 1, u, h => by obtain rfl := Option.some.inj h; exact ⟨0, i, 1, rfl, rfl, by omega, rfl⟩
  | i :: l, 2, u, h => by obtain rfl := Option.some.inj h; exact ⟨0, i, 2, rfl, rfl, by omega, rfl⟩
  | i :: l, 3, u, h => by obtain rfl := Option.some.inj h; exact ⟨0, i, 3, rfl, rfl, by omega, rfl⟩
  | i :: l, j + 4, u, h => by
    have e : (inC (i :: l))[j + 4]? = (inC l)[j]? := rfl
    rw [e] at h
    obtain ⟨k, x, r, h1, h2, h3, h4⟩ := inC_split l j u h
    exact ⟨k + 1, x, r, h1, by omega, h3, h4⟩
theorem inC_all (l : List Ins) : ∀ u ∈ inC l, u.oneCell' = true := fun u hu => by
  unfold inC at hu
  rw [List.mem_flatMap] at hu
  obtain ⟨i, -, h⟩ := hu
  simp only [List.mem_cons, List.not_mem_nil, or_false] at h
  rcases h with rfl | rfl | rfl | rfl <;> rfl
/-- a slice's copy onto an empty slice of one's own: ints, instructions -/
theorem copy_ints (w : World) (base ty : Nat) (t e : TypeId) (ht : Tryd.prog.underlying t = some (.slice e)) (hin : (Tryd.prog.info? e).map (fun i => (i.zero, i.size, i.bytes)) = some (some (.int .i64 0), 1, 8)) (g : Nat) (hown : w.ownsRow base e 1 (.slice (some ⟨g, 0, none⟩) 0 0) 0 []) (u : Value) (l : List Int) (hL : ILst w u l) (hb : l.length ≤ 17592186044416) (hbase : base ≤ w.heap.size) :
    ∃ v' w', (Builtin.append_ #[t, t] ty #[.slice (some ⟨g, 0, none⟩) 0 0, u]).run Tryd.prog w = .ok v' w' ∧ w'.ownsRow base e 1 v' l.length (intC l) ∧ Below w.heap.size w w' := by
  obtain ⟨i0, hi, hz0, hz1, hz2⟩ := info_parts hin
  obtain ⟨a, b, off, c, rfl, hA, hI⟩ := hL
  by_cases hn : 0 < l.length
  · obtain ⟨_, rfl⟩ := hA hn
    refine app_fresh w base t ty e i0 _ 1 8 ht hi hz0 hz1 hz2 rfl (by omega) g hown _ l.length c (intC l) (by rw [intC_length]; omega) (fun j x hx => ?_) (intC_one l) (by unfold maxLen; omega) (by omega) hbase
    rw [intC_get] at hx
    cases hy : l[j]? with
    | none => rw [hy] at hx; cases hx
    | some y =>
      rw [hy] at hx
      have hx : Value.int .i64 y = x := by simpa using hx
      subst hx
      rw [addr_at]
      exact hI j y hy
  · have hl : l = [] := List.eq_nil_of_length_eq_zero (by omega)
    subst hl
    cases a with
    | some ad => exact app_fresh w base t ty e i0 _ 1 8 ht hi hz0 hz1 hz2 rfl (by omega) g hown ad 0 c [] rfl (fun j x hx => by cases hx) (fun x hx => by cases hx) (by unfold maxLen; omega) (by omega) hbase
    | none =>
      refine ⟨_, w, ?_, hown, Below.refl _ _⟩
      simp [Builtin.append_, run_underlying ht, go_sem, sizeOf, typeInfo, hi]
theorem copy_ins (w : World) (base ty : Nat) (g : Nat) (hown : w.ownsRow base 38 4 (.slice (some ⟨g, 0, none⟩) 0 0) 0 []) (u : Value) (l : List Ins) (hL : ISt w u l) (hb : l.length ≤ 4398046511104) (hbase : base ≤ w.heap.size) :
    ∃ v' w', (Builtin.append_ #[24, 24] ty #[.slice (some ⟨g, 0, none⟩) 0 0, u]).run Tryd.prog w = .ok v' w' ∧ w'.ownsRow base 38 4 v' l.length (inC l) ∧ Below w.heap.size w w' := by
  obtain ⟨i0, hi, hz0, hz1, hz2⟩ := info_parts inX
  obtain ⟨a, b, off, c, rfl, hA, hI⟩ := hL
  by_cases hn : 0 < l.length
  · obtain ⟨_, rfl⟩ := hA hn
    refine app_fresh w base 24 ty 38 i0 _ 4 32 Tryd.underlying24 hi hz0 hz1 hz2 rfl (by omega) g hown _ l.length c (inC l) (by rw [inC_length]; omega) (fun j x hx => ?_) (inC_all l) (by unfold maxLen; omega) (by omega) hbase
    obtain ⟨k, i, r, h1, rfl, h3, rfl⟩ := inC_split l j x hx
    obtain ⟨e0, e1, e2, e3⟩ := hI k i h1
    rw [addr_at]
    have : r = 0 ∨ r = 1 ∨ r = 2 ∨ r = 3 := by omega
    rcases this with rfl | rfl | rfl | rfl
    · exact e0
    · exact e1
    · exact e2
    · exact e3
  · have hl : l = [] := List.eq_nil_of_length_eq_zero (by omega)
    subst hl
    cases a with
    | some ad => exact app_fresh w base 24 ty 38 i0 _ 4 32 Tryd.underlying24 hi hz0 hz1 hz2 rfl (by omega) g hown ad 0 c [] rfl (fun j x hx => by cases hx) (fun x hx => by cases hx) (by unfold maxLen; omega) (by omega) hbase
    | none =>
      refine ⟨_, w, ?_, hown, Below.refl _ _⟩
      simp [Builtin.append_, run_underlying Tryd.underlying24, go_sem, sizeOf, typeInfo, hi]
end Go.Proofs.YtlckedionmgjjaaDoor
