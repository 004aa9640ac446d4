/- Slices of tokens that read as a list. | The contracts of the reader's next and is. | The contract of the reader's operation. | The contracts of the reader's refuse and open; stores into the reader's own memory. | What the reader's recursion leans on; the contract of within, over that of the rows' closure. -/
import Derived.Test.YtkicbmjjbnblfaaDoorPLst
import Derived.Deep.RegionWith
import Derived.Deep.RegionHeld3
import Derived.Deep.RegionLaw
import Derived.Deep.AppendLies
import Derived.Deep.DeepAppendWide
import Derived.Test.YtkicbmjjbnblfaaDoorBckE
namespace Go.Proofs.YtkicbmjjbnblfaaDoor
open Go.RowKit
/-- a token as its five cells have it -/
structure Tv where
  k : Int
  s : ByteArray
  n : Int
  t : Int
  at_ : Int
def tvC (x : Tv) : List Value := [.int .i64 x.k, .string x.s, .int .i64 x.n, .int .i64 x.t, .int .i64 x.at_]
def tvsC : List Tv → List Value
  | [] => []
  | x :: l => tvC x ++ tvsC l
theorem tvsC_append (a b : List Tv) : tvsC (a ++ b) = tvsC a ++ tvsC b := by
  induction a with
  | nil => rfl
  | cons x a ih => rw [List.cons_append, tvsC, tvsC, ih, List.append_assoc]
theorem tvsC_length (l : List Tv) : (tvsC l).length = l.length * 5 := by
  induction l with
  | nil => rfl
  | cons x l ih => rw [tvsC, List.length_append, ih, List.length_cons]; show 5 + _ = _; omega
theorem tvsC_get (l : List Tv) : ∀ (i j : Nat) (h : i < l.length), j < 5 → (tvsC l)[i * 5 + j]? = (tvC l[i])[j]? := by
  induction l with
  | nil => intro i j h; exact absurd h (Nat.not_lt_zero _)
  | cons x l ih =>
    intro i j h hj
    match i with
    | 0 => rw [tvsC, List.getElem?_append_left (by show 0 * 5 + j < 5; omega), Nat.zero_mul, Nat.zero_add]; rfl
    | i + 1 =>
      rw [tvsC, List.getElem?_append_right (by show 5 ≤ _; omega)]
      show (tvsC l)[(i + 1) * 5 + j - 5]? = (tvC (l[i]'(by simpa using h)))[j]?
      rw [show (i + 1) * 5 + j - 5 = i * 5 + j from by omega]
      exact ih i j (by simpa using h) hj
theorem tvsC_one (l : List Tv) : ∀ u ∈ tvsC l, u.oneCell' = true := by
  induction l with
  | nil => intro u hu; cases hu
  | cons x l ih =>
    intro u hu
    rcases List.mem_append.1 hu with h | h
    · simp only [tvC, List.mem_cons, List.not_mem_nil, or_false] at h
      rcases h with rfl | rfl | rfl | rfl | rfl <;> rfl
    · exact ih u h
/-- the tokens of a text of L bytes -/
def tvOf (L : Nat) (x : Tk × Nat) : Tv := ⟨x.1.kind, ⟨x.1.s.toArray⟩, x.1.n, x.1.ty, ((L - x.2 : Nat) : Int)⟩
/-- the tokens l lie at a place -/
def TvAt (w : World) (b off : Nat) (l : List Tv) : Prop :=
  ∀ i x, l[i]? = some x → w.cell? ⟨b, off + i * 5, none⟩ = some (.int .i64 x.k) ∧ w.cell? ⟨b, off + i * 5 + 1, none⟩ = some (.string x.s) ∧ w.cell? ⟨b, off + i * 5 + 2, none⟩ = some (.int .i64 x.n) ∧ w.cell? ⟨b, off + i * 5 + 3, none⟩ = some (.int .i64 x.t) ∧ w.cell? ⟨b, off + i * 5 + 4, none⟩ = some (.int .i64 x.at_)
/-- a slice that reads as l -/
def Lst (w : World) (v : Value) (l : List Tv) : Prop :=
  ∃ (a : Option Addr) (b off cap : Nat), v = .slice a l.length cap ∧ (0 < l.length → b < w.heap.size ∧ a = some ⟨b, off, none⟩) ∧ TvAt w b off l
theorem Lst.below {w w' : World} {v : Value} {l : List Tv} {B : Nat} (h : Lst w v l) (hb : Below B w w') (hB : w.heap.size ≤ B) : Lst w' v l := by
  obtain ⟨a, b, off, cap, rfl, hb0, hI⟩ := h
  refine ⟨a, b, off, cap, rfl, fun h => ⟨by have := hb.size; have := (hb0 h).1; omega, (hb0 h).2⟩, fun i x hx => ?_⟩
  have hlt : b < B := by have := (hb0 (by have := (List.getElem?_eq_some_iff.1 hx).1; omega)).1; omega
  obtain ⟨h1, h2, h3, h4, h5⟩ := hI i x hx
  exact ⟨(hb.cell (p := ⟨b, _, none⟩) hlt).trans h1, (hb.cell (p := ⟨b, _, none⟩) hlt).trans h2, (hb.cell (p := ⟨b, _, none⟩) hlt).trans h3, (hb.cell (p := ⟨b, _, none⟩) hlt).trans h4, (hb.cell (p := ⟨b, _, none⟩) hlt).trans h5⟩
theorem Lst.of_owns {w : World} {base : Nat} {v : Value} {l : List Tv} (h : w.ownsRow base 44 5 v l.length (tvsC l)) : Lst w v l := by
  rcases h.2 with ⟨rfl, h0⟩ | ⟨g, cap, cur, rfl, hb, hg, hn, hm, hc, ht⟩
  · have hl : l = [] := List.eq_nil_of_length_eq_zero h0
    subst hl
    exact ⟨none, 0, 0, 0, rfl, fun h => absurd h (Nat.lt_irrefl 0), fun i x hx => by cases hx⟩
  · refine ⟨some ⟨g, 0, none⟩, g, 0, cap, rfl, fun _ => ⟨(Array.getElem?_eq_some_iff.1 hg).1, rfl⟩, fun i x hx => ?_⟩
    obtain ⟨hi, he⟩ := List.getElem?_eq_some_iff.1 hx
    have key : ∀ j, j < 5 → w.cell? ⟨g, i * 5 + j, none⟩ = (tvC x)[j]? := fun j hj => by
      rw [h.cellAt (i * 5 + j) (by omega), tvsC_get l i j hi hj, he]
    rw [Nat.zero_add]
    exact ⟨key 0 (by omega), key 1 (by omega), key 2 (by omega), key 3 (by omega), key 4 (by omega)⟩
theorem tv_cells {w : World} {b off : Nat} {l : List Tv} (h : TvAt w b off l) : ∀ j u, (tvsC l)[j]? = some u → w.cell? ((⟨b, off, none⟩ : Addr).add j) = some u := fun j u hu => by
  have hj : j < l.length * 5 := by rw [← tvsC_length]; exact (List.getElem?_eq_some_iff.1 hu).1
  have hi : j / 5 < l.length := by omega
  have e : (tvsC l)[j / 5 * 5 + j % 5]? = (tvC l[j / 5])[j % 5]? := tvsC_get l (j / 5) (j % 5) hi (by omega)
  rw [show j / 5 * 5 + j % 5 = j from by omega, hu] at e
  obtain ⟨h0, h1, h2, h3, h4⟩ := h (j / 5) _ (List.getElem?_eq_getElem hi)
  rw [Addr.add_mid]
  have hr : j % 5 = 0 ∨ j % 5 = 1 ∨ j % 5 = 2 ∨ j % 5 = 3 ∨ j % 5 = 4 := by omega
  rcases hr with r | r | r | r | r
  · rw [r] at e; rw [show off + j = off + j / 5 * 5 from by omega, h0]; exact e.symm
  · rw [r] at e; rw [show off + j = off + j / 5 * 5 + 1 from by omega, h1]; exact e.symm
  · rw [r] at e; rw [show off + j = off + j / 5 * 5 + 2 from by omega, h2]; exact e.symm
  · rw [r] at e; rw [show off + j = off + j / 5 * 5 + 3 from by omega, h3]; exact e.symm
  · rw [r] at e; rw [show off + j = off + j / 5 * 5 + 4 from by omega, h4]; exact e.symm
/-- the same but for their places -/
def core (x : Tv) : Int × ByteArray × Int × Int := (x.k, x.s, x.n, x.t)
def tkV (x : Tv) : Tk := ⟨x.k, x.s.data.toList, x.n, x.t⟩
def noTv : Tv := ⟨0, ⟨#[]⟩, 0, 0, 0⟩
/-- the token at a place; behind the last one, one of no kind -/
def tokAt (l : List Tv) (i : Nat) : Tv := l.getD i noTv
def tvA (x : Tv) : Value := .agg #[.int .i64 x.k, .string x.s, .int .i64 x.n, .int .i64 x.t, .int .i64 x.at_]
/-- all but one block below B is kept, and all blocks besides it that are no rows of parts -/
structure Keep (B R : Nat) (w w' : World) : Prop where
  os : w'.os = w.os
  tape : w'.tape = w.tape
  output : w'.output = w.output
  size : w.heap.size ≤ w'.heap.size
  block : ∀ k, k < B → k ≠ R → w'.heap[k]? = w.heap[k]?
  others : ∀ k o, w.heap[k]? = some o → k ≠ R → (∀ c fz, o ≠ .cells c 46 fz) → w'.heap[k]? = some o
theorem Keep.refl (B R : Nat) (w : World) : Keep B R w w := ⟨rfl, rfl, rfl, Nat.le_refl _, fun _ _ _ => rfl, fun _ _ h _ _ => h⟩
theorem Keep.trans {B R : Nat} {a b c : World} (h : Keep B R a b) (k : Keep B R b c) : Keep B R a c :=
  ⟨k.os.trans h.os, k.tape.trans h.tape, k.output.trans h.output, Nat.le_trans h.size k.size, fun i hi hr => (k.block i hi hr).trans (h.block i hi hr), fun i o ho hr hn => k.others i o (h.others i o ho hr hn) hr hn⟩
theorem Keep.of_below {B R : Nat} {w w' : World} (h : Below w.heap.size w w') (hB : B ≤ w.heap.size) : Keep B R w w' :=
  ⟨h.os, h.tape, h.output, h.size, fun k hk _ => h.block k (Nat.lt_of_lt_of_le hk hB), fun k _ ho _ _ => (h.block k (Array.getElem?_eq_some_iff.1 ho).1).trans ho⟩
theorem Keep.setCell {B R : Nat} {a w : World} (h : Keep B R a w) {p : Addr} (hp : p.block = R) (u : Value) : Keep B R a (w.setCell p u) :=
  ⟨h.os, h.tape, h.output, by rw [World.size_setCell]; exact h.size, fun k hk hr => (Below.heap_setCell w p u k (by omega)).trans (h.block k hk hr), fun k o ho hr hn => (Below.heap_setCell w p u k (by omega)).trans (h.others k o ho hr hn)⟩
/-- the reader's own memory: the tokens, its place, how many are open, the parts, the fault -/
structure RS (B R : Nat) (tv : Value) (toks : List Tv) (at_ op : Nat) (ps : List Pv) (fa fc : Int) (w : World) : Prop where
  hB : R < B
  le : B ≤ w.heap.size
  here : at_ ≤ toks.length
  row : ∃ pv, w.heap[R]? = some (.cells #[tv, .int .i64 (at_ : Int), .int .i64 (op : Int), pv, .int .i64 fa, .int .i64 fc] 54) ∧ w.ownsRow B 46 5 pv ps.length (pvsC ps)
  toks : ∃ (a : Option Addr) (b off cap : Nat), tv = .slice a toks.length cap ∧ (0 < toks.length → b < B ∧ b ≠ R ∧ a = some ⟨b, off, none⟩) ∧ TvAt w b off toks
end Go.Proofs.YtkicbmjjbnblfaaDoor
namespace Go.Proofs.YtkicbmjjbnblfaaDoor
open Go.RowKit
theorem lt_of_heap {w : World} {b : Nat} {o : Obj} (h : w.heap[b]? = some o) : b < w.heap.size := (Array.getElem?_eq_some_iff.1 h).1
theorem below5 {B b : Nat} {a w : World} (h : Below B a w) (hb : B ≤ b) (u1 u2 u3 u4 u5 : Value) : Below B a (((((w.setCell ⟨b, 0, none⟩ u1).setCell ⟨b, 1, none⟩ u2).setCell ⟨b, 2, none⟩ u3).setCell ⟨b, 3, none⟩ u4).setCell ⟨b, 4, none⟩ u5) :=
  ((((h.setCell (p := ⟨b, 0, none⟩) hb u1).setCell (p := ⟨b, 1, none⟩) hb u2).setCell (p := ⟨b, 2, none⟩) hb u3).setCell (p := ⟨b, 3, none⟩) hb u4).setCell (p := ⟨b, 4, none⟩) hb u5
set_option maxRecDepth 100000 in
set_option maxHeartbeats 3200000 in
theorem next_any {B R : Nat} {tv : Value} {toks : List Tv} {at_ op : Nat} {ps : List Pv} {fa fc : Int} {w : World} (h : RS B R tv toks at_ op ps fa fc w) (hl : toks.length ≤ 4398046510976) : Calls Tryd.prog 87 #[.pointer (some ⟨R, 0, none⟩)] w fun e w' => e = .returned (tvA (tokAt toks at_)) ∧ Below w.heap.size w w' := by
  obtain ⟨pv, hrow, _⟩ := h.row
  obtain ⟨a, b, off, cap, rfl, hA, hT⟩ := h.toks
  have hR := lt_of_heap hrow
  have a0 : ∀ o, (w.alloc o).cell? ⟨R, 0, none⟩ = some (.slice a toks.length cap) := fun o => (World.cell?_alloc_lt _ _ _ hR).trans (by rw [Lib.cell_of_heap hrow]; rfl)
  have a1 : ∀ o, (w.alloc o).cell? ⟨R, 1, none⟩ = some (.int .i64 (at_ : Int)) := fun o => (World.cell?_alloc_lt _ _ _ hR).trans (by rw [Lib.cell_of_heap hrow]; rfl)
  have hhere := h.here
  have B0 := hide ((Below.refl w.heap.size w).alloc (Nat.le_refl _) (.cells #[.int .i64 0, .string ⟨#[]⟩, .int .i64 0, .int .i64 0, .int .i64 0] 44))
  by_cases he : at_ = toks.length
  · have HE : Hid (tokAt toks at_ = noTv) := by
      show _ = _
      unfold tokAt
      rw [List.getD_eq_getElem?_getD, List.getElem?_eq_none (by omega)]; rfl
    have i1 : ((at_ : Int) == (toks.length : Int)) = true := by rw [beq_iff_eq]; omega
    clear hrow hA hT h
    generalize (toks.length) = N at *
    subst he
    go_enter Tryd.func87, Tryd.ntmps87
    go_wp2
    go_quiet (fail)
    go_wp2
    refine bodyPost_ret (v := tvA noTv) ?_ rfl ⟨by rw [HE.out], ?_⟩
    · simp [results, Tryd.results87, go_sem, tvA, noTv]
    · exact below5 (below_drawn B0.out _) (Nat.le_refl _) _ _ _ _ _
  · have hlt : at_ < toks.length := by omega
    obtain ⟨hbB, _, rfl⟩ := hA (by omega)
    obtain ⟨x, hx⟩ : ∃ x, toks[at_]? = some x := ⟨_, List.getElem?_eq_getElem hlt⟩
    obtain ⟨q0, q1, q2, q3, q4⟩ := hT at_ x hx
    have hbw : b < w.heap.size := Nat.lt_of_lt_of_le hbB h.le
    have c0 : ∀ o, (w.alloc o).cell? ⟨b, off + at_ * 5, none⟩ = some (.int .i64 x.k) := fun o => (World.cell?_alloc_lt _ _ _ hbw).trans q0
    have c1 : ∀ o, (w.alloc o).cell? ⟨b, off + at_ * 5 + 1, none⟩ = some (.string x.s) := fun o => (World.cell?_alloc_lt _ _ _ hbw).trans q1
    have c2 : ∀ o, (w.alloc o).cell? ⟨b, off + at_ * 5 + 2, none⟩ = some (.int .i64 x.n) := fun o => (World.cell?_alloc_lt _ _ _ hbw).trans q2
    have c3 : ∀ o, (w.alloc o).cell? ⟨b, off + at_ * 5 + 3, none⟩ = some (.int .i64 x.t) := fun o => (World.cell?_alloc_lt _ _ _ hbw).trans q3
    have c4 : ∀ o, (w.alloc o).cell? ⟨b, off + at_ * 5 + 4, none⟩ = some (.int .i64 x.at_) := fun o => (World.cell?_alloc_lt _ _ _ hbw).trans q4
    have HE : Hid (tokAt toks at_ = x) := by
      show _ = _
      unfold tokAt
      rw [List.getD_eq_getElem?_getD, hx]; rfl
    have i1 : ((at_ : Int) == (toks.length : Int)) = false := by rw [beq_eq_false_iff_ne]; omega
    have i2 : (at_ : Int) < (toks.length : Int) := by omega
    have i3 : (0 : Int) ≤ (at_ : Int) := by omega
    have i4 : (toks.length : Int) ≤ 4398046510976 := by omega
    clear hrow hA hT h q0 q1 q2 q3 q4 hx hlt he hl hhere
    generalize (toks.length) = N at *
    go_enter Tryd.func87, Tryd.ntmps87
    go_wp2
    go_quiet (fail)
    go_wp2
    go_region_with (fail)
    all_goals
      go_wp2
      refine bodyPost_ret (v := tvA x) ?_ rfl ⟨by rw [HE.out], ?_⟩
      · simp [results, Tryd.results87, go_sem, tvA]
      · exact below5 (below_drawn B0.out _) (Nat.le_refl _) _ _ _ _ _
set_option maxRecDepth 100000 in
set_option maxHeartbeats 3200000 in
theorem is_any {B R : Nat} {tv : Value} {toks : List Tv} {at_ op : Nat} {ps : List Pv} {fa fc : Int} {w : World} (h : RS B R tv toks at_ op ps fa fc w) (hl : toks.length ≤ 4398046510976) (kind : Int) (u : ByteArray) : Calls Tryd.prog 59 #[.pointer (some ⟨R, 0, none⟩), .int .i64 kind, .string u] w fun e w' => e = .returned (.bool (decide ((tokAt toks at_).k = kind ∧ (tokAt toks at_).s = u))) ∧ Below w.heap.size w w' := by
  have c := next_any h hl
  clear h hl
  generalize tokAt toks at_ = x at *
  obtain ⟨xk, xs, xn, xt, xa⟩ := x
  unfold tvA at c
  simp only [] at c ⊢
  have bt := beq_text xs u
  go_enter Tryd.func59, Tryd.ntmps59
  go_wp2_with fail
  refine c.mono ?_
  rintro e w1 ⟨rfl, hb1⟩
  have B1 := hide (hb1.alloc hb1.size (.cells #[.int .i64 xk, .string xs, .int .i64 xn, .int .i64 xt, .int .i64 xa] 44))
  clear c hb1
  by_cases hk : xk = kind
  · subst hk
    by_cases hs : xs = u
    · have hb : (xs.toList == u.toList) = true := by rw [bt]; exact decide_eq_true hs
      have HE := hide (decide_eq_true hs)
      clear bt hs
      go_wp2
      go_ret
      exact ⟨ret_bool HE.out.symm, B1.out⟩
    · have hb : (xs.toList == u.toList) = false := by rw [bt]; exact decide_eq_false hs
      have HE := hide (decide_eq_false hs)
      clear bt hs
      go_wp2
      go_ret
      exact ⟨ret_bool HE.out.symm, B1.out⟩
  · have HE : Hid (decide (xk = kind ∧ xs = u) = false) := decide_eq_false (fun q => hk q.1)
    have hb : (xk == kind) = false := by rw [beq_eq_false_iff_ne]; exact hk
    clear bt hk
    go_wp2
    go_ret
    exact ⟨ret_bool HE.out.symm, B1.out⟩
end Go.Proofs.YtkicbmjjbnblfaaDoor
namespace Go.Proofs.YtkicbmjjbnblfaaDoor
open Go.RowKit
/-- the operation of a row that a token is -/
def opRow (row : Int) (x : Tv) : Option Int := (opRows.find? fun r => decide (r.1 = row ∧ x.k = r.2.1 ∧ x.s = ⟨r.2.2.1.toArray⟩)).map (·.2.2.2)
theorem RS.below {B R : Nat} {tv : Value} {toks : List Tv} {at_ op : Nat} {ps : List Pv} {fa fc : Int} {w w' : World} (h : RS B R tv toks at_ op ps fa fc w) (hb : Below w.heap.size w w') : RS B R tv toks at_ op ps fa fc w' := by
  obtain ⟨pv, hrow, hown⟩ := h.row
  obtain ⟨a, b, off, cap, htv, hA, hT⟩ := h.toks
  refine ⟨h.hB, Nat.le_trans h.le hb.size, h.here, ⟨pv, by rw [hb.block R (lt_of_heap hrow)]; exact hrow, ⟨hown.1, ?_⟩⟩, ⟨a, b, off, cap, htv, hA, fun i x hx => ?_⟩⟩
  · rcases hown.2 with h | ⟨g, cap, cur, r1, r2, r3, r4⟩
    · exact .inl h
    · exact .inr ⟨g, cap, cur, r1, r2, by rw [hb.block g (lt_of_heap r3)]; exact r3, r4⟩
  · have hbB := (hA (by have := (List.getElem?_eq_some_iff.1 hx).1; omega)).1
    have hbw : b < w.heap.size := Nat.lt_of_lt_of_le hbB h.le
    obtain ⟨q0, q1, q2, q3, q4⟩ := hT i x hx
    exact ⟨(hb.cell (p := ⟨b, _, none⟩) hbw).trans q0, (hb.cell (p := ⟨b, _, none⟩) hbw).trans q1, (hb.cell (p := ⟨b, _, none⟩) hbw).trans q2, (hb.cell (p := ⟨b, _, none⟩) hbw).trans q3, (hb.cell (p := ⟨b, _, none⟩) hbw).trans q4⟩
def opOut (o : Option Int) : Value := match o with
  | some n => .tuple #[.int .i64 n, .bool true]
  | none => .tuple #[.int .i64 0, .bool false]
set_option maxRecDepth 100000 in
set_option maxHeartbeats 3200000 in
theorem operation_any {B R : Nat} {tv : Value} {toks : List Tv} {at_ op : Nat} {ps : List Pv} {fa fc : Int} {w : World} (h : RS B R tv toks at_ op ps fa fc w) (hl : toks.length ≤ 4398046510976) (row : Int) (hg : TabAt w 0 opTab) : Calls Tryd.prog 34 #[.pointer (some ⟨R, 0, none⟩), .int .i64 row] w fun e w' => e = .returned (opOut (opRow row (tokAt toks at_))) ∧ Below w.heap.size w w' := by
  have ix : Hid (∀ (k : Nat) (h : k < 17) (W : World), (Instr.index 104 (.agg opTab.toArray) (.int .i64 (k : Int))).run Tryd.prog W = .ok (.agg #[.int .i64 (opRows[k]'h).1, .int .i64 (opRows[k]'h).2.1, .string ⟨(opRows[k]'h).2.2.1.toArray⟩, .int .i64 (opRows[k]'h).2.2.2]) W) := op_idx
  obtain ⟨KT, hT⟩ : ∃ KT, Value.agg opTab.toArray = KT := ⟨_, rfl⟩
  rw [hT] at ix
  have HH := hide h
  have HLn := hide hl
  obtain ⟨F, hF⟩ : ∃ F : (Int × Int × Bs × Int) → Bool, F = fun r => decide (r.1 = row ∧ (tokAt toks at_).k = r.2.1 ∧ (tokAt toks at_).s = ⟨r.2.2.1.toArray⟩) := ⟨_, rfl⟩
  have HF := hide hF
  have HO : Hid (opRow row (tokAt toks at_) = (opRows.find? F).map (·.2.2.2)) := by show _ = _; rw [hF]; rfl
  clear h hl hF
  go_enter Tryd.func34, Tryd.ntmps34
  go_wp2_with ((with_reducible refine at_load (ty := 104) ?_); go_must (refine load_tab (b := 0) (t := opTab) (T := KT) rfl hg hT Tryd.underlying104 rfl size104 ?_))
  clear hg hT
  go_loopw [9] (fun i wr => ∃ k : Nat, k ≤ 17 ∧ i = .int .i64 (k : Int) ∧ Hid (Below w.heap.size w wr ∧ (opRows.drop k).find? F = opRows.find? F)) (fun i _ => 17 - (intOf i).toNat)
  case atStart => exact ⟨0, by omega, rfl, Below.refl _ _, rfl⟩
  case round =>
    obtain ⟨k, hk, rfl, hh⟩ := hrel
    have HB := hide hh.out.1
    have hf := hh.out.2
    clear hh
    by_cases hlt : k < 17
    · have x0 := ix.out k hlt
      have i1 : (k : Int) < 17 := by omega
      rw [List.drop_eq_getElem_cons (show k < opRows.length from hlt), List.find?_cons] at hf
      generalize (opRows[k]'hlt) = r at *
      obtain ⟨r0, r1, r2, r3⟩ := r
      simp only [] at x0 hf
      obtain ⟨u, hu⟩ : ∃ u : ByteArray, u = ⟨r2.toArray⟩ := ⟨_, rfl⟩
      rw [← hu] at x0
      have zr := HB.out.size
      have b1 := HB.out.alloc zr (.cells #[.int .i64 r0, .int .i64 r1, .string u, .int .i64 r3] 92)
      have c := is_any (HH.out.below b1) HLn.out r1 u
      have B1 := hide b1
      have HU := hide hu
      have HFF := hide hf
      clear ix b1 hu hf
      by_cases hr0 : r0 = row
      · subst hr0
        go_wp2_with fail
        refine c.mono ?_
        rintro e w1 ⟨rfl, hb1⟩
        have B2 := hide (B1.out.trans (hb1.mono B1.out.size))
        have z1 : wr.heap.size < (wr.alloc (.cells #[.int .i64 r0, .int .i64 r1, .string u, .int .i64 r3] 92)).heap.size := by rw [World.size_alloc]; omega
        have d3 : w1.cell? ⟨wr.heap.size, 3, none⟩ = some (.int .i64 r3) := (hb1.cell (p := ⟨wr.heap.size, 3, none⟩) z1).trans (by simp)
        clear hb1 c z1
        cases hq : decide ((tokAt toks at_).k = r1 ∧ (tokAt toks at_).s = u) with
        | true =>
          have HR : Hid (opRow r0 (tokAt toks at_) = some r3) := by
            show _ = _
            have hq2 := of_decide_eq_true hq
            have e1 : F (r0, r1, r2, r3) = true := by rw [HF.out]; exact decide_eq_true ⟨rfl, hq2.1, by rw [hq2.2, HU.out]⟩
            rw [HO.out, ← HFF.out, e1]; rfl
          clear hq
          go_wp2
          go_ret2
          exact ⟨by rw [HR.out]; rfl, B2.out⟩
        | false =>
          have HR : Hid ((opRows.drop (k + 1)).find? F = opRows.find? F) := by
            show _ = _
            have hq2 := of_decide_eq_false hq
            have e1 : F (r0, r1, r2, r3) = false := by rw [HF.out]; exact decide_eq_false (fun q => hq2 ⟨q.2.1, by rw [q.2.2, HU.out]⟩)
            rw [← HFF.out, e1]
          clear hq
          go_wp2
          go_roundw
          case rel => exact ⟨k + 1, by omega, by go_num, B2.out, HR.out⟩
          case measure => simp [intOf]; omega
      · have HR : Hid ((opRows.drop (k + 1)).find? F = opRows.find? F) := by
          show _ = _
          have e1 : F (r0, r1, r2, r3) = false := by rw [HF.out]; exact decide_eq_false (fun q => hr0 q.1)
          rw [← HFF.out, e1]
        have hb : (r0 == row) = false := by rw [beq_eq_false_iff_ne]; exact hr0
        clear c hr0
        go_wp2
        go_roundw
        case rel => exact ⟨k + 1, by omega, by go_num, B1.out, HR.out⟩
        case measure => simp [intOf]; omega
    · obtain rfl : k = 17 := by omega
      have HR : Hid (opRow row (tokAt toks at_) = none) := by
        show _ = _
        rw [HO.out, ← hf]; rfl
      clear hf ix
      go_wp2
      go_ret2
      exact ⟨by rw [HR.out]; rfl, HB.out⟩
end Go.Proofs.YtkicbmjjbnblfaaDoor
namespace Go.Proofs.YtkicbmjjbnblfaaDoor
open Go.RowKit
theorem put_at {w : World} {R : Nat} {t p : Value} {a o fa fc : Value} (h : w.heap[R]? = some (.cells #[t, a, o, p, fa, fc] 54)) (v : Value) : (w.setCell ⟨R, 1, none⟩ v).heap[R]? = some (.cells #[t, v, o, p, fa, fc] 54) := by
  simp [World.setCell, Array.getElem?_modify, h]
theorem put_op {w : World} {R : Nat} {t p : Value} {a o fa fc : Value} (h : w.heap[R]? = some (.cells #[t, a, o, p, fa, fc] 54)) (v : Value) : (w.setCell ⟨R, 2, none⟩ v).heap[R]? = some (.cells #[t, a, v, p, fa, fc] 54) := by
  simp [World.setCell, Array.getElem?_modify, h]
theorem put_ps {w : World} {R : Nat} {t p : Value} {a o fa fc : Value} (h : w.heap[R]? = some (.cells #[t, a, o, p, fa, fc] 54)) (v : Value) : (w.setCell ⟨R, 3, none⟩ v).heap[R]? = some (.cells #[t, a, o, v, fa, fc] 54) := by
  simp [World.setCell, Array.getElem?_modify, h]
theorem put_fa {w : World} {R : Nat} {t p : Value} {a o fa fc : Value} (h : w.heap[R]? = some (.cells #[t, a, o, p, fa, fc] 54)) (v : Value) : (w.setCell ⟨R, 4, none⟩ v).heap[R]? = some (.cells #[t, a, o, p, v, fc] 54) := by
  simp [World.setCell, Array.getElem?_modify, h]
theorem put_fc {w : World} {R : Nat} {t p : Value} {a o fa fc : Value} (h : w.heap[R]? = some (.cells #[t, a, o, p, fa, fc] 54)) (v : Value) : (w.setCell ⟨R, 5, none⟩ v).heap[R]? = some (.cells #[t, a, o, p, fa, v] 54) := by
  simp [World.setCell, Array.getElem?_modify, h]
theorem alloc2_at (w : World) (A B : Obj) : ((w.alloc A).alloc B).drew.heap[w.heap.size + 1]? = some B := by
  show ((w.alloc A).alloc B).heap[w.heap.size + 1]? = some B
  have := heap_alloc_new (w.alloc A) B
  simpa using this
theorem add_row {w w1 : World} {A C o : Obj} {R : Nat} {row : Option Nat} (h : w.heap[R]? = some o) (hg : ((w.alloc A).alloc C).drew.grownBy w1 row) (hne : row ≠ some R) : w1.heap[R]? = some o := by
  have hlt := lt_of_heap h
  have hx : ((w.alloc A).alloc C).drew.heap[R]? = some o := by
    show ((w.alloc A).alloc C).heap[R]? = some o
    rw [Lib.alloc_old (w.alloc A) C R (by rw [World.size_alloc]; omega), Lib.alloc_old w A R hlt]; exact h
  rw [hg.block R (lt_of_heap hx) (fun e => hne e.symm)]
  exact hx
theorem own_row {w : World} {base n : Nat} {v : Value} {xs : List Value} (h : w.ownsRow base 46 5 v n xs) : ∀ k, v.ownBlock = some k → ∃ c fz, w.heap[k]? = some (.cells c 46 fz) := fun k hk => by
  rcases h.2 with ⟨rfl, _⟩ | ⟨g, cap, cur, rfl, _, hg, _⟩
  · cases hk
  · simp [Value.ownBlock] at hk
    subst hk
    exact ⟨_, _, hg⟩
theorem add_keep {w w1 : World} {A C : Obj} {B R : Nat} {row : Option Nat} (hB : B ≤ w.heap.size) (hg : ((w.alloc A).alloc C).drew.grownBy w1 row) (hr : ∀ k, row = some k → B ≤ k) (hrow : ∀ k, row = some k → ∃ c fz, w.heap[k]? = some (.cells c 46 fz)) : Keep B R w w1 := by
  have b0 := (Below.refl w.heap.size w).alloc (Nat.le_refl _) A
  have b1 : Below B w ((w.alloc A).alloc C).drew := ((b0.alloc b0.size C).drew).mono hB
  have b2 := b1.grown hg (by show B ≤ ((w.alloc A).alloc C).heap.size; rw [World.size_alloc, World.size_alloc]; omega) hr
  refine ⟨b2.os, b2.tape, b2.output, b2.size, fun k hk _ => b2.block k hk, fun k o ho _ hn => ?_⟩
  have hne : row ≠ some k := fun e => by
    obtain ⟨c, fz, h⟩ := hrow k e
    exact hn c fz (Option.some.inj (ho.symm.trans h))
  exact add_row ho hg hne
/-- the reader's state behind whatever has turned its own block alone -/
theorem RS.turn {B R : Nat} {tv : Value} {toks : List Tv} {at_ op at2 op2 : Nat} {ps ps2 : List Pv} {fa fc fa2 fc2 : Int} {w w' : World} (h : RS B R tv toks at_ op ps fa fc w) (hk : Keep B R w w') (hh : at2 ≤ toks.length)
    (hrow : ∃ pv, w'.heap[R]? = some (.cells #[tv, .int .i64 (at2 : Int), .int .i64 (op2 : Int), pv, .int .i64 fa2, .int .i64 fc2] 54) ∧ w'.ownsRow B 46 5 pv ps2.length (pvsC ps2)) : RS B R tv toks at2 op2 ps2 fa2 fc2 w' := by
  obtain ⟨a, b, off, cap, htv, hA, hT⟩ := h.toks
  refine ⟨h.hB, Nat.le_trans h.le hk.size, hh, hrow, ⟨a, b, off, cap, htv, hA, fun i x hx => ?_⟩⟩
  obtain ⟨hbB, hbR, _⟩ := hA (by have := (List.getElem?_eq_some_iff.1 hx).1; omega)
  have hc : ∀ j, w'.cell? ⟨b, j, none⟩ = w.cell? ⟨b, j, none⟩ := fun j => World.cell?_of_block (hk.block b hbB hbR)
  obtain ⟨q0, q1, q2, q3, q4⟩ := hT i x hx
  exact ⟨(hc _).trans q0, (hc _).trans q1, (hc _).trans q2, (hc _).trans q3, (hc _).trans q4⟩
set_option maxRecDepth 100000 in
set_option maxHeartbeats 1600000 in
theorem refuse_any {B R : Nat} {tv : Value} {toks : List Tv} {at_ op : Nat} {ps : List Pv} {fa fc : Int} {w : World} (h : RS B R tv toks at_ op ps fa fc w) : Calls Tryd.prog 111 #[.pointer (some ⟨R, 0, none⟩)] w fun e w' => e = .returned (.bool false) ∧ RS B R tv toks at_ op ps (at_ : Int) 60 w' ∧ Keep B R w w' := by
  have HH := hide h
  obtain ⟨pv, hrow, hown⟩ := h.row
  have d1 : w.cell? ⟨R, 1, none⟩ = some (.int .i64 (at_ : Int)) := by rw [Lib.cell_of_heap hrow]; rfl
  have d4 : w.cell? ⟨R, 4, none⟩ = some (.int .i64 fa) := by rw [Lib.cell_of_heap hrow]; rfl
  have d5 : w.cell? ⟨R, 5, none⟩ = some (.int .i64 fc) := by rw [Lib.cell_of_heap hrow]; rfl
  have e4 : ∀ j, w.frozen? ⟨R, j, none⟩ = false := fun j => Lib.frozen_of_heap hrow j
  have HK : Hid (Keep B R w ((w.setCell ⟨R, 4, none⟩ (.int .i64 (at_ : Int))).setCell ⟨R, 5, none⟩ (.int .i64 60))) := ((Keep.refl B R w).setCell (p := ⟨R, 4, none⟩) rfl _).setCell (p := ⟨R, 5, none⟩) rfl _
  have HR : Hid (RS B R tv toks at_ op ps (at_ : Int) 60 ((w.setCell ⟨R, 4, none⟩ (.int .i64 (at_ : Int))).setCell ⟨R, 5, none⟩ (.int .i64 60))) :=
    h.turn HK.out h.here ⟨pv, put_fc (put_fa hrow _) _, ownsRow_setCell_below (ownsRow_setCell_below hown (a := ⟨R, 4, none⟩) h.hB _) (a := ⟨R, 5, none⟩) h.hB _⟩
  clear h hrow hown
  go_enter Tryd.func111, Tryd.ntmps111
  go_wp2
  go_ret
  exact ⟨rfl, HR.out, HK.out⟩
set_option maxRecDepth 100000 in
set_option maxHeartbeats 1600000 in
theorem open_full {B R : Nat} {tv : Value} {toks : List Tv} {at_ op : Nat} {ps : List Pv} {fa fc : Int} {w : World} (h : RS B R tv toks at_ op ps fa fc w) (h2 : op = 200) : Calls Tryd.prog 58 #[.pointer (some ⟨R, 0, none⟩)] w fun e w' => e = .returned (.bool false) ∧ RS B R tv toks at_ op ps (at_ : Int) 2 w' ∧ Keep B R w w' := by
  obtain ⟨pv, hrow, hown⟩ := h.row
  have d1 : w.cell? ⟨R, 1, none⟩ = some (.int .i64 (at_ : Int)) := by rw [Lib.cell_of_heap hrow]; rfl
  have d2 : w.cell? ⟨R, 2, none⟩ = some (.int .i64 (op : Int)) := by rw [Lib.cell_of_heap hrow]; rfl
  have d4 : w.cell? ⟨R, 4, none⟩ = some (.int .i64 fa) := by rw [Lib.cell_of_heap hrow]; rfl
  have d5 : w.cell? ⟨R, 5, none⟩ = some (.int .i64 fc) := by rw [Lib.cell_of_heap hrow]; rfl
  have e4 : ∀ j, w.frozen? ⟨R, j, none⟩ = false := fun j => Lib.frozen_of_heap hrow j
  have HK : Hid (Keep B R w ((w.setCell ⟨R, 4, none⟩ (.int .i64 (at_ : Int))).setCell ⟨R, 5, none⟩ (.int .i64 2))) := ((Keep.refl B R w).setCell (p := ⟨R, 4, none⟩) rfl _).setCell (p := ⟨R, 5, none⟩) rfl _
  have HR : Hid (RS B R tv toks at_ op ps (at_ : Int) 2 ((w.setCell ⟨R, 4, none⟩ (.int .i64 (at_ : Int))).setCell ⟨R, 5, none⟩ (.int .i64 2))) :=
    h.turn HK.out h.here ⟨pv, put_fc (put_fa hrow _) _, ownsRow_setCell_below (ownsRow_setCell_below hown (a := ⟨R, 4, none⟩) h.hB _) (a := ⟨R, 5, none⟩) h.hB _⟩
  have i1 : ((op : Int) == 200) = true := by rw [beq_iff_eq]; omega
  clear h hrow hown h2
  go_enter Tryd.func58, Tryd.ntmps58
  go_wp2
  go_ret
  exact ⟨rfl, HR.out, HK.out⟩
set_option maxRecDepth 100000 in
set_option maxHeartbeats 1600000 in
theorem open_more {B R : Nat} {tv : Value} {toks : List Tv} {at_ op : Nat} {ps : List Pv} {fa fc : Int} {w : World} (h : RS B R tv toks at_ op ps fa fc w) (hl : toks.length ≤ 4398046510976) (h2 : op < 200) (hlt : at_ < toks.length) : Calls Tryd.prog 58 #[.pointer (some ⟨R, 0, none⟩)] w fun e w' => e = .returned (.bool true) ∧ RS B R tv toks (at_ + 1) (op + 1) ps fa fc w' ∧ Keep B R w w' := by
  obtain ⟨pv, hrow, hown⟩ := h.row
  have d1 : w.cell? ⟨R, 1, none⟩ = some (.int .i64 (at_ : Int)) := by rw [Lib.cell_of_heap hrow]; rfl
  have d2 : w.cell? ⟨R, 2, none⟩ = some (.int .i64 (op : Int)) := by rw [Lib.cell_of_heap hrow]; rfl
  have d4 : w.cell? ⟨R, 4, none⟩ = some (.int .i64 fa) := by rw [Lib.cell_of_heap hrow]; rfl
  have d5 : w.cell? ⟨R, 5, none⟩ = some (.int .i64 fc) := by rw [Lib.cell_of_heap hrow]; rfl
  have e4 : ∀ j, w.frozen? ⟨R, j, none⟩ = false := fun j => Lib.frozen_of_heap hrow j
  have HK : Hid (Keep B R w ((w.setCell ⟨R, 2, none⟩ (.int .i64 ((op : Int) + 1))).setCell ⟨R, 1, none⟩ (.int .i64 ((at_ : Int) + 1)))) := ((Keep.refl B R w).setCell (p := ⟨R, 2, none⟩) rfl _).setCell (p := ⟨R, 1, none⟩) rfl _
  have HR : Hid (RS B R tv toks (at_ + 1) (op + 1) ps fa fc ((w.setCell ⟨R, 2, none⟩ (.int .i64 ((op : Int) + 1))).setCell ⟨R, 1, none⟩ (.int .i64 ((at_ : Int) + 1)))) :=
    h.turn HK.out hlt ⟨pv, put_at (put_op hrow _) _, ownsRow_setCell_below (ownsRow_setCell_below hown (a := ⟨R, 2, none⟩) h.hB _) (a := ⟨R, 1, none⟩) h.hB _⟩
  have i1 : ((op : Int) == 200) = false := by rw [beq_eq_false_iff_ne]; omega
  have i2 : (op : Int) ≤ 200 := by omega
  have i3 : (at_ : Int) ≤ 4398046510976 := by omega
  have i4 : (0 : Int) ≤ (op : Int) := by omega
  have i5 : (0 : Int) ≤ (at_ : Int) := by omega
  clear h hrow hown h2 hl hlt
  go_enter Tryd.func58, Tryd.ntmps58
  go_wp2
  go_ret
  exact ⟨rfl, HR.out, HK.out⟩
theorem step_append_wide (w : World) {ops : Array Oper} {o : Oper} {a : Act} {K : Act → World → Prop} {Q : Exit → Act → World → Prop} {E : Prop} (hgd : o.guard = none) (s x : Operand) (t : TypeId)
    (ho : o.op = .call { callee := .builtin .append, args := #[s, x], argTypes := #[t, t] })
    (base : Nat) (e : TypeId) (i : TypeInfo) (z : Value) (size bytes : Nat) (ht : Tryd.prog.underlying t = some (.slice e)) (hi : Tryd.prog.info? e = some i) (hz : i.zero = some z)
    (hsize : i.size = size) (hby : i.bytes = bytes) (hzs : z.cells.size = size) (hsz : 0 < size)
    (v : Value) (n : Nat) (xs : List Value) (hs : a.eval s = v) (hown : w.ownsRow base e size v n xs)
    (ad : Addr) (m c : Nat) (news : List Value) (hx : a.eval x = .slice (some ad) m c) (hl : news.length = m * size) (hnews : ∀ j u, news[j]? = some u → w.cell? (ad.add j) = some u) (h1 : ∀ u ∈ news, u.oneCell' = true)
    (hm : 0 < m) (h63 : n + m ≤ maxLen) (hbytes : ((n + m) + (n + m) / 4 + 192) * bytes ≤ 281474976710656) (hbase : base ≤ w.heap.size)
    (h : ∀ g cap w', w'.ownsRow base e size (.slice (some ⟨g, 0, none⟩) (n + m) cap) (n + m) (xs ++ news) → w.grownBy w' v.ownBlock → K (a.put o.dst (.slice (some ⟨g, 0, none⟩) (n + m) cap)) w') :
    if Region.wanted o (yielded ops a.tmps) = true then Oper.wp Tryd.prog o a w K Q else E := by
  have hw : Region.wanted o (yielded ops a.tmps) = true := by simp [Region.wanted, hgd]
  rw [if_pos hw]
  obtain ⟨v', w', hr, h2, h3, _⟩ := run_append_own_wide (P := Tryd.prog) w base t o.type e i z size bytes ht hi hz hsize hby hzs hsz v n xs hown ad m c news hl hnews h1 h63 hbytes hbase
  unfold Oper.wp execOp
  simp only [ho, resolve, invoke, builtin, Sem.run_bind, Sem.run_pure, Result.andThen_ok, List.map_toArray, List.map_cons, List.map_nil, hs, hx, hr]
  rcases h2.2 with ⟨_, h0⟩ | ⟨g, cap, cur, rfl, _⟩
  · omega
  · exact h g cap w' h2 h3
theorem in44 : (Tryd.prog.info? 46).map (fun i => (i.zero, i.size, i.bytes)) = some (some (.agg #[.int .i64 0, .int .i64 0, .int .i64 0, .string ⟨#[]⟩, .string ⟨#[]⟩]), 5, 56) := by kernel_rfl
set_option maxRecDepth 100000 in
set_option maxHeartbeats 3200000 in
theorem add_any {B R : Nat} {tv : Value} {toks : List Tv} {at_ op : Nat} {ps : List Pv} {fa fc : Int} {w : World} (h : RS B R tv toks at_ op ps fa fc w) (hl : ps.length ≤ 3000000000000) (p : Pv) : Calls Tryd.prog 35 #[.pointer (some ⟨R, 0, none⟩), .agg #[.int .i64 p.k, .int .i64 p.n, .int .i64 p.t, .string p.s, .string p.f]] w fun e w' => e = .returned (.bool true) ∧ RS B R tv toks at_ op (ps ++ [p]) fa fc w' ∧ Keep B R w w' := by
  have HH := hide h
  obtain ⟨pv, hrow, hown⟩ := h.row
  obtain ⟨i0, hi, hz0, hz1, hz2⟩ := info_parts in44
  have hR := lt_of_heap hrow
  have hRB := h.hB
  have hBw := h.le
  have a3 : ∀ o, (w.alloc o).cell? ⟨R, 3, none⟩ = some pv := fun o => (World.cell?_alloc_lt _ _ _ hR).trans (by rw [Lib.cell_of_heap hrow]; rfl)
  have a3' : ∀ o o', ((w.alloc o).alloc o').cell? ⟨R, 3, none⟩ = some pv := fun o o' => (World.cell?_alloc_lt _ _ _ (by rw [World.size_alloc]; show R < _; omega)).trans (a3 o)
  have HROW := hide hrow
  have HOWN := hide hown
  have hne : pv.ownBlock ≠ some R := fun e => by have := (hown.lt R e).1; omega
  have HNE := hide hne
  obtain ⟨pk, pn, pt, pS, pF⟩ := p
  simp only []
  clear h hrow hown hne
  go_enter Tryd.func35, Tryd.ntmps35
  go_wp2
  go_region_law ((refine step_append_wide _ (by rfl) _ _ _ (by rfl) B 46 i0 _ 5 56 Tryd.underlying24 hi hz0 hz1 hz2 rfl (by omega) pv ps.length _ (by rfl) (by exact (HOWN.out.alloc _).alloc _) ⟨w.heap.size + 1, 0, none⟩ 1 1 [.int .i64 pk, .int .i64 pn, .int .i64 pt, .string pS, .string pF] (by rfl) (by rfl) (World.news_of_block (cs := #[.int .i64 pk, .int .i64 pn, .int .i64 pt, .string pS, .string pF]) (t := 46) (fr := (0, 0)) (by exact alloc2_at w _ _)) (by simp [Value.oneCell']) (by omega) (by unfold maxLen; omega) (by omega) (by simp; omega) ?_; intro gg cap' w1 hown1 hgrow; have e1 := add_row HROW.out hgrow HNE.out; have q3 := (Lib.cell_of_heap e1 3); have q3f := Lib.frozen_of_heap e1 3; simp only [List.getElem?_toArray, List.getElem?_cons_succ, List.getElem?_cons_zero] at q3; have HK := hide (add_keep (R := R) hBw hgrow (fun r hr => (HOWN.out.lt r hr).1) (own_row HOWN.out)); have HE1 := hide e1; have HO1 := hide hown1; clear hgrow e1 hown1))
  all_goals
    go_wp2
    go_ret
    have K2 := HK.out.setCell (p := ⟨R, 3, none⟩) rfl (.slice (some ⟨gg, 0, none⟩) (ps.length + 1) cap')
    refine ⟨rfl, HH.out.turn K2 HH.out.here ⟨_, put_ps HE1.out _, ?_⟩, K2⟩
    have ho := HO1.out
    rw [List.length_append, pvsC_append]
    exact ownsRow_setCell_below ho (a := ⟨R, 3, none⟩) hRB _
end Go.Proofs.YtkicbmjjbnblfaaDoor
namespace Go.Proofs.YtkicbmjjbnblfaaDoor
open Go.RowKit
def fvOf (P1 P2 : Nat) : Value := .func (.func 32) #[] #[.pointer (some ⟨P1, 0, none⟩), .pointer (some ⟨P2, 0, none⟩)]
/-- the tables, and the closure's two variables -/
structure Env (B R P1 P2 : Nat) (w : World) : Prop where
  glo : Glo w
  c1 : w.cell? ⟨P1, 0, none⟩ = some (.pointer (some ⟨R, 0, none⟩))
  c2 : w.cell? ⟨P2, 0, none⟩ = some (fvOf P1 P2)
  l1 : P1 < B
  l2 : P2 < B
  n1 : P1 ≠ R
  n2 : P2 ≠ R
  r8 : 8 < R
  rB : R < B
theorem TabAt.keep {B R b : Nat} {w w' : World} {t : List Value} (h : TabAt w b t) (hk : Keep B R w w') (hb : b < B) (hr : b ≠ R) : TabAt w' b t := fun k v e => (World.cell?_of_block (w := w) (w' := w') (hk.block b hb hr)).trans (h k v e)
theorem Env.keep {B R P1 P2 : Nat} {w w' : World} (h : Env B R P1 P2 w) (hk : Keep B R w w') : Env B R P1 P2 w' := by
  have r8 := h.r8
  have rB := h.rB
  refine ⟨⟨h.glo.conv.keep hk (by omega) (by omega), h.glo.ops.keep hk (by omega) (by omega), h.glo.kw.keep hk (by omega) (by omega), h.glo.base.keep hk (by omega) (by omega), h.glo.sign.keep hk (by omega) (by omega), h.glo.span.keep hk (by omega) (by omega), h.glo.ty.keep hk (by omega) (by omega), h.glo.most.imp fun _ e => (World.cell?_of_block (w := w) (w' := w') (hk.block 7 (by omega) (by omega))).trans e, h.glo.unit.keep hk (by omega) (by omega)⟩, ?_, ?_, h.l1, h.l2, h.n1, h.n2, h.r8, h.rB⟩
  · exact (World.cell?_of_block (w := w) (w' := w') (hk.block P1 h.l1 h.n1)).trans h.c1
  · exact (World.cell?_of_block (w := w) (w' := w') (hk.block P2 h.l2 h.n2)).trans h.c2
theorem Env.below {B R P1 P2 : Nat} {w w' : World} (h : Env B R P1 P2 w) (hb : Below w.heap.size w w') (hB : B ≤ w.heap.size) : Env B R P1 P2 w' := h.keep (Keep.of_below hb hB)
/-- the tokens from a place on -/
def lst (toks : List Tv) (i : Nat) : List Tk := (toks.drop i).map tkV
theorem lst_len (toks : List Tv) (i : Nat) : (lst toks i).length = toks.length - i := by rw [lst, List.length_map, List.length_drop]
theorem lst_cons {toks : List Tv} {i : Nat} (h : i < toks.length) : lst toks i = tkV (tokAt toks i) :: lst toks (i + 1) := by
  unfold lst tokAt
  rw [List.drop_eq_getElem_cons h, List.map_cons, List.getD_eq_getElem?_getD, List.getElem?_eq_getElem h]; rfl
theorem lst_nil {toks : List Tv} {i : Nat} (h : toks.length ≤ i) : lst toks i = [] := by
  unfold lst
  rw [List.drop_of_length_le h]; rfl
theorem tok_none {toks : List Tv} {i : Nat} (h : toks.length ≤ i) : tokAt toks i = noTv := by
  unfold tokAt
  rw [List.getD_eq_getElem?_getD, List.getElem?_eq_none h]; rfl
theorem sign_is (s : Bs) (x : Tv) : isSign s (tkV x) = decide (x.k = 3 ∧ x.s = ⟨s.toArray⟩) := by
  show (decide (x.k = 3) && (x.s.data.toList == s)) = _
  rw [Bool.eq_iff_iff]
  simp only [Bool.and_eq_true, decide_eq_true_eq, beq_iff_eq]
  constructor
  · rintro ⟨a, b⟩; exact ⟨a, by rw [← b, text_back]⟩
  · rintro ⟨a, b⟩; exact ⟨a, by rw [b]⟩
theorem lst_drop (toks : List Tv) (i j : Nat) : (lst toks i).drop j = lst toks (i + j) := by
  unfold lst
  rw [← List.map_drop, List.drop_drop]
/-- what is left is what stands from its place on -/
theorem rest_lst {f : Nat} {m : Md} {d i : Nat} {toks : List Tv} {x : List Pt} {r : List Tk} (h : rd f m d (lst toks i) = some (.ok (x, r))) (hi : i ≤ toks.length) : r = lst toks (toks.length - r.length) ∧ r.length ≤ toks.length - i := by
  obtain ⟨p, hp, _⟩ := (rd_reads h).swap
  have hl := congrArg List.length hp
  rw [lst_len, List.length_append] at hl
  have e : r = (lst toks i).drop p.length := by rw [hp, List.drop_left]
  refine ⟨?_, by omega⟩
  have e2 : toks.length - r.length = i + p.length := by omega
  rw [e2, ← lst_drop]
  exact e
/-- what the reader has answered, and left -/
def PostR (B R : Nat) (tv : Value) (toks : List Tv) (op : Nat) (ps : List Pv) (fa fc : Int) (res : Res) (w : World) (e : Ending) (w' : World) : Prop :=
  Keep B R w w' ∧ match res with
  | .ok (x, r) => e = .returned (.bool true) ∧ ∃ xs : List Pv, xs.map ptV = x ∧ RS B R tv toks (toks.length - r.length) op (ps ++ xs) fa fc w'
  | .error (k, c) => e = .returned (.bool false) ∧ ∃ at2 op2 ps2, RS B R tv toks at2 op2 ps2 ((toks.length - k : Nat) : Int) c w'
/-- the closure does what the plain reader does, as long as that has turns -/
def RowOk (B R P1 P2 : Nat) (tv : Value) (toks : List Tv) (f : Nat) : Prop := ∀ (n at_ op : Nat) (ps : List Pv) (fa fc : Int) (w : World) (res : Res), n ≤ 7 → op ≤ 200 → ps.length ≤ at_ → RS B R tv toks at_ op ps fa fc w → Env B R P1 P2 w → rd f (.row n) op (lst toks at_) = some res →
  Calls Tryd.prog 32 #[.int .i64 (n : Int), .pointer (some ⟨P1, 0, none⟩), .pointer (some ⟨P2, 0, none⟩)] w (PostR B R tv toks op ps fa fc res w)
end Go.Proofs.YtkicbmjjbnblfaaDoor
