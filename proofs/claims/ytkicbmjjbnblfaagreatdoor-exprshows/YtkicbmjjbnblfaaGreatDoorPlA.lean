/- Slices of parts that read as a list. | Slices of tokens that read as a list. | The contracts of the reader's next and is. | The contract of the reader's operation. -/
import Derived.Test.YtkicbmjjbnblfaaGreatDoorEmW
import Derived.OwnWalk
import Derived.Deep.RegionWith
import Derived.Deep.RegionHeld3
namespace Go.Proofs.YtkicbmjjbnblfaaGreatDoor
open Go.RowKit
/-- a part as its five cells have it -/
structure Pv where
  k : Int
  n : Int
  t : Int
  s : ByteArray
  f : ByteArray
def pvC (x : Pv) : List Value := [.int .i64 x.k, .int .i64 x.n, .int .i64 x.t, .string x.s, .string x.f]
def pvsC : List Pv → List Value
  | [] => []
  | x :: l => pvC x ++ pvsC l
theorem pvsC_append (a b : List Pv) : pvsC (a ++ b) = pvsC a ++ pvsC b := by
  induction a with
  | nil => rfl
  | cons x a ih => rw [List.cons_append, pvsC, pvsC, ih, List.append_assoc]
theorem pvsC_length (l : List Pv) : (pvsC l).length = l.length * 5 := by
  induction l with
  | nil => rfl
  | cons x l ih => rw [pvsC, List.length_append, ih, List.length_cons]; show 5 + _ = _; omega
theorem pvsC_get (l : List Pv) : ∀ (i j : Nat) (h : i < l.length), j < 5 → (pvsC l)[i * 5 + j]? = (pvC l[i])[j]? := by
  induction l with
  | nil => intro i j h; exact absurd h (Nat.not_lt_zero _)
  | cons x l ih =>
    intro i j h hj
    match i with
    | 0 => rw [pvsC, List.getElem?_append_left (by show 0 * 5 + j < 5; omega), Nat.zero_mul, Nat.zero_add]; rfl
    | i + 1 =>
      rw [pvsC, List.getElem?_append_right (by show 5 ≤ _; omega)]
      show (pvsC l)[(i + 1) * 5 + j - 5]? = (pvC (l[i]'(by simpa using h)))[j]?
      rw [show (i + 1) * 5 + j - 5 = i * 5 + j from by omega]
      exact ih i j (by simpa using h) hj
theorem pvsC_one (l : List Pv) : ∀ u ∈ pvsC l, u.oneCell' = true := by
  induction l with
  | nil => intro u hu; cases hu
  | cons x l ih =>
    intro u hu
    rcases List.mem_append.1 hu with h | h
    · simp only [pvC, List.mem_cons, List.not_mem_nil, or_false] at h
      rcases h with rfl | rfl | rfl | rfl | rfl <;> rfl
    · exact ih u h
/-- the tokens l lie at a place -/
def PvAt (w : World) (b off : Nat) (l : List Pv) : Prop :=
  ∀ i x, l[i]? = some x → w.cell? ⟨b, off + i * 5, none⟩ = some (.int .i64 x.k) ∧ w.cell? ⟨b, off + i * 5 + 1, none⟩ = some (.int .i64 x.n) ∧ w.cell? ⟨b, off + i * 5 + 2, none⟩ = some (.int .i64 x.t) ∧ w.cell? ⟨b, off + i * 5 + 3, none⟩ = some (.string x.s) ∧ w.cell? ⟨b, off + i * 5 + 4, none⟩ = some (.string x.f)
/-- a slice that reads as l -/
def PLst (w : World) (v : Value) (l : List Pv) : Prop :=
  ∃ (a : Option Addr) (b off cap : Nat), v = .slice a l.length cap ∧ (0 < l.length → b < w.heap.size ∧ a = some ⟨b, off, none⟩) ∧ PvAt w b off l
theorem PLst.below {w w' : World} {v : Value} {l : List Pv} {B : Nat} (h : PLst w v l) (hb : Below B w w') (hB : w.heap.size ≤ B) : PLst w' v l := by
  obtain ⟨a, b, off, cap, rfl, hb0, hI⟩ := h
  refine ⟨a, b, off, cap, rfl, fun h => ⟨by have := hb.size; have := (hb0 h).1; omega, (hb0 h).2⟩, fun i x hx => ?_⟩
  have hlt : b < B := by have := (hb0 (by have := (List.getElem?_eq_some_iff.1 hx).1; omega)).1; omega
  obtain ⟨h1, h2, h3, h4, h5⟩ := hI i x hx
  exact ⟨(hb.cell (p := ⟨b, _, none⟩) hlt).trans h1, (hb.cell (p := ⟨b, _, none⟩) hlt).trans h2, (hb.cell (p := ⟨b, _, none⟩) hlt).trans h3, (hb.cell (p := ⟨b, _, none⟩) hlt).trans h4, (hb.cell (p := ⟨b, _, none⟩) hlt).trans h5⟩
theorem PLst.of_owns {w : World} {base : Nat} {v : Value} {l : List Pv} (h : w.ownsRow base 39 5 v l.length (pvsC l)) : PLst w v l := by
  rcases h.2 with ⟨rfl, h0⟩ | ⟨g, cap, cur, rfl, hb, hg, hn, hm, hc, ht⟩
  · have hl : l = [] := List.eq_nil_of_length_eq_zero h0
    subst hl
    exact ⟨none, 0, 0, 0, rfl, fun h => absurd h (Nat.lt_irrefl 0), fun i x hx => by cases hx⟩
  · refine ⟨some ⟨g, 0, none⟩, g, 0, cap, rfl, fun _ => ⟨(Array.getElem?_eq_some_iff.1 hg).1, rfl⟩, fun i x hx => ?_⟩
    obtain ⟨hi, he⟩ := List.getElem?_eq_some_iff.1 hx
    have key : ∀ j, j < 5 → w.cell? ⟨g, i * 5 + j, none⟩ = (pvC x)[j]? := fun j hj => by
      rw [h.cellAt (i * 5 + j) (by omega), pvsC_get l i j hi hj, he]
    rw [Nat.zero_add]
    exact ⟨key 0 (by omega), key 1 (by omega), key 2 (by omega), key 3 (by omega), key 4 (by omega)⟩
theorem pv_cells {w : World} {b off : Nat} {l : List Pv} (h : PvAt w b off l) : ∀ j u, (pvsC l)[j]? = some u → w.cell? ((⟨b, off, none⟩ : Addr).add j) = some u := fun j u hu => by
  have hj : j < l.length * 5 := by rw [← pvsC_length]; exact (List.getElem?_eq_some_iff.1 hu).1
  have hi : j / 5 < l.length := by omega
  have e : (pvsC l)[j / 5 * 5 + j % 5]? = (pvC l[j / 5])[j % 5]? := pvsC_get l (j / 5) (j % 5) hi (by omega)
  rw [show j / 5 * 5 + j % 5 = j from by omega, hu] at e
  obtain ⟨h0, h1, h2, h3, h4⟩ := h (j / 5) _ (List.getElem?_eq_getElem hi)
  rw [Addr.add_mid]
  have hr : j % 5 = 0 ∨ j % 5 = 1 ∨ j % 5 = 2 ∨ j % 5 = 3 ∨ j % 5 = 4 := by omega
  rcases hr with r | r | r | r | r
  · rw [r] at e; rw [show off + j = off + j / 5 * 5 from by omega, h0]; exact e.symm
  · rw [r] at e; rw [show off + j = off + j / 5 * 5 + 1 from by omega, h1]; exact e.symm
  · rw [r] at e; rw [show off + j = off + j / 5 * 5 + 2 from by omega, h2]; exact e.symm
  · rw [r] at e; rw [show off + j = off + j / 5 * 5 + 3 from by omega, h3]; exact e.symm
  · rw [r] at e; rw [show off + j = off + j / 5 * 5 + 4 from by omega, h4]; exact e.symm
def ptV (x : Pv) : Pt := ⟨x.k, x.s.data.toList, x.f.data.toList, x.n, x.t⟩
theorem text_back (s : ByteArray) : (⟨s.data.toList.toArray⟩ : ByteArray) = s := by cases s; simp
theorem mayBe_v (x : Pv) (w : World) (hg : Glo w) : Calls Tryz.prog 23 #[.agg #[.int .i64 x.k, .int .i64 x.n, .int .i64 x.t, .string x.s, .string x.f]] w fun e w' => e = .returned (.bool (mayP (ptV x))) ∧ Below w.heap.size w w' := by
  have h := mayBe_any x.k x.n x.t x.s.data.toList x.f.data.toList w hg
  rw [text_back, text_back] at h
  exact h
theorem operands_v (x : Pv) (w : World) : Calls Tryz.prog 17 #[.agg #[.int .i64 x.k, .int .i64 x.n, .int .i64 x.t, .string x.s, .string x.f]] w fun e w' => e = .returned (.int .i64 ((takes (ptV x) : Nat) : Int)) ∧ Below w.heap.size w w' := operands_any x.k x.n x.t x.s x.f w
end Go.Proofs.YtkicbmjjbnblfaaGreatDoor
namespace Go.Proofs.YtkicbmjjbnblfaaGreatDoor
open Go.RowKit
/-- a token as its five cells have it -/
structure Tv where
  k : Int
  s : ByteArray
  n : Int
  t : Int
  at_ : Int
def tvC (x : Tv) : List Value := [.int .i64 x.k, .string x.s, .int .i64 x.n, .int .i64 x.t, .int .i64 x.at_]
def tvsC : List Tv → List Value
  | [] => []
  | x :: l => tvC x ++ tvsC l
theorem tvsC_append (a b : List Tv) : tvsC (a ++ b) = tvsC a ++ tvsC b := by
  induction a with
  | nil => rfl
  | cons x a ih => rw [List.cons_append, tvsC, tvsC, ih, List.append_assoc]
theorem tvsC_length (l : List Tv) : (tvsC l).length = l.length * 5 := by
  induction l with
  | nil => rfl
  | cons x l ih => rw [tvsC, List.length_append, ih, List.length_cons]; show 5 + _ = _; omega
theorem tvsC_get (l : List Tv) : ∀ (i j : Nat) (h : i < l.length), j < 5 → (tvsC l)[i * 5 + j]? = (tvC l[i])[j]? := by
  induction l with
  | nil => intro i j h; exact absurd h (Nat.not_lt_zero _)
  | cons x l ih =>
    intro i j h hj
    match i with
    | 0 => rw [tvsC, List.getElem?_append_left (by show 0 * 5 + j < 5; omega), Nat.zero_mul, Nat.zero_add]; rfl
    | i + 1 =>
      rw [tvsC, List.getElem?_append_right (by show 5 ≤ _; omega)]
      show (tvsC l)[(i + 1) * 5 + j - 5]? = (tvC (l[i]'(by simpa using h)))[j]?
      rw [show (i + 1) * 5 + j - 5 = i * 5 + j from by omega]
      exact ih i j (by simpa using h) hj
theorem tvsC_one (l : List Tv) : ∀ u ∈ tvsC l, u.oneCell' = true := by
  induction l with
  | nil => intro u hu; cases hu
  | cons x l ih =>
    intro u hu
    rcases List.mem_append.1 hu with h | h
    · simp only [tvC, List.mem_cons, List.not_mem_nil, or_false] at h
      rcases h with rfl | rfl | rfl | rfl | rfl <;> rfl
    · exact ih u h
/-- the tokens of a text of L bytes -/
def tvOf (L : Nat) (x : Tk × Nat) : Tv := ⟨x.1.kind, ⟨x.1.s.toArray⟩, x.1.n, x.1.ty, ((L - x.2 : Nat) : Int)⟩
/-- the tokens l lie at a place -/
def TvAt (w : World) (b off : Nat) (l : List Tv) : Prop :=
  ∀ i x, l[i]? = some x → w.cell? ⟨b, off + i * 5, none⟩ = some (.int .i64 x.k) ∧ w.cell? ⟨b, off + i * 5 + 1, none⟩ = some (.string x.s) ∧ w.cell? ⟨b, off + i * 5 + 2, none⟩ = some (.int .i64 x.n) ∧ w.cell? ⟨b, off + i * 5 + 3, none⟩ = some (.int .i64 x.t) ∧ w.cell? ⟨b, off + i * 5 + 4, none⟩ = some (.int .i64 x.at_)
/-- a slice that reads as l -/
def Lst (w : World) (v : Value) (l : List Tv) : Prop :=
  ∃ (a : Option Addr) (b off cap : Nat), v = .slice a l.length cap ∧ (0 < l.length → b < w.heap.size ∧ a = some ⟨b, off, none⟩) ∧ TvAt w b off l
theorem Lst.below {w w' : World} {v : Value} {l : List Tv} {B : Nat} (h : Lst w v l) (hb : Below B w w') (hB : w.heap.size ≤ B) : Lst w' v l := by
  obtain ⟨a, b, off, cap, rfl, hb0, hI⟩ := h
  refine ⟨a, b, off, cap, rfl, fun h => ⟨by have := hb.size; have := (hb0 h).1; omega, (hb0 h).2⟩, fun i x hx => ?_⟩
  have hlt : b < B := by have := (hb0 (by have := (List.getElem?_eq_some_iff.1 hx).1; omega)).1; omega
  obtain ⟨h1, h2, h3, h4, h5⟩ := hI i x hx
  exact ⟨(hb.cell (p := ⟨b, _, none⟩) hlt).trans h1, (hb.cell (p := ⟨b, _, none⟩) hlt).trans h2, (hb.cell (p := ⟨b, _, none⟩) hlt).trans h3, (hb.cell (p := ⟨b, _, none⟩) hlt).trans h4, (hb.cell (p := ⟨b, _, none⟩) hlt).trans h5⟩
theorem Lst.of_owns {w : World} {base : Nat} {v : Value} {l : List Tv} (h : w.ownsRow base 54 5 v l.length (tvsC l)) : Lst w v l := by
  rcases h.2 with ⟨rfl, h0⟩ | ⟨g, cap, cur, rfl, hb, hg, hn, hm, hc, ht⟩
  · have hl : l = [] := List.eq_nil_of_length_eq_zero h0
    subst hl
    exact ⟨none, 0, 0, 0, rfl, fun h => absurd h (Nat.lt_irrefl 0), fun i x hx => by cases hx⟩
  · refine ⟨some ⟨g, 0, none⟩, g, 0, cap, rfl, fun _ => ⟨(Array.getElem?_eq_some_iff.1 hg).1, rfl⟩, fun i x hx => ?_⟩
    obtain ⟨hi, he⟩ := List.getElem?_eq_some_iff.1 hx
    have key : ∀ j, j < 5 → w.cell? ⟨g, i * 5 + j, none⟩ = (tvC x)[j]? := fun j hj => by
      rw [h.cellAt (i * 5 + j) (by omega), tvsC_get l i j hi hj, he]
    rw [Nat.zero_add]
    exact ⟨key 0 (by omega), key 1 (by omega), key 2 (by omega), key 3 (by omega), key 4 (by omega)⟩
theorem tv_cells {w : World} {b off : Nat} {l : List Tv} (h : TvAt w b off l) : ∀ j u, (tvsC l)[j]? = some u → w.cell? ((⟨b, off, none⟩ : Addr).add j) = some u := fun j u hu => by
  have hj : j < l.length * 5 := by rw [← tvsC_length]; exact (List.getElem?_eq_some_iff.1 hu).1
  have hi : j / 5 < l.length := by omega
  have e : (tvsC l)[j / 5 * 5 + j % 5]? = (tvC l[j / 5])[j % 5]? := tvsC_get l (j / 5) (j % 5) hi (by omega)
  rw [show j / 5 * 5 + j % 5 = j from by omega, hu] at e
  obtain ⟨h0, h1, h2, h3, h4⟩ := h (j / 5) _ (List.getElem?_eq_getElem hi)
  rw [Addr.add_mid]
  have hr : j % 5 = 0 ∨ j % 5 = 1 ∨ j % 5 = 2 ∨ j % 5 = 3 ∨ j % 5 = 4 := by omega
  rcases hr with r | r | r | r | r
  · rw [r] at e; rw [show off + j = off + j / 5 * 5 from by omega, h0]; exact e.symm
  · rw [r] at e; rw [show off + j = off + j / 5 * 5 + 1 from by omega, h1]; exact e.symm
  · rw [r] at e; rw [show off + j = off + j / 5 * 5 + 2 from by omega, h2]; exact e.symm
  · rw [r] at e; rw [show off + j = off + j / 5 * 5 + 3 from by omega, h3]; exact e.symm
  · rw [r] at e; rw [show off + j = off + j / 5 * 5 + 4 from by omega, h4]; exact e.symm
/-- the same but for their places -/
def core (x : Tv) : Int × ByteArray × Int × Int := (x.k, x.s, x.n, x.t)
def tkV (x : Tv) : Tk := ⟨x.k, x.s.data.toList, x.n, x.t⟩
def noTv : Tv := ⟨0, ⟨#[]⟩, 0, 0, 0⟩
/-- the token at a place; behind the last one, one of no kind -/
def tokAt (l : List Tv) (i : Nat) : Tv := l.getD i noTv
def tvA (x : Tv) : Value := .agg #[.int .i64 x.k, .string x.s, .int .i64 x.n, .int .i64 x.t, .int .i64 x.at_]
/-- all but one block below B is kept, and all blocks besides it that are no rows of parts -/
structure Keep (B R : Nat) (w w' : World) : Prop where
  os : w'.os = w.os
  tape : w'.tape = w.tape
  output : w'.output = w.output
  size : w.heap.size ≤ w'.heap.size
  block : ∀ k, k < B → k ≠ R → w'.heap[k]? = w.heap[k]?
  others : ∀ k o, w.heap[k]? = some o → k ≠ R → (∀ c fz, o ≠ .cells c 39 fz) → w'.heap[k]? = some o
theorem Keep.refl (B R : Nat) (w : World) : Keep B R w w := ⟨rfl, rfl, rfl, Nat.le_refl _, fun _ _ _ => rfl, fun _ _ h _ _ => h⟩
theorem Keep.trans {B R : Nat} {a b c : World} (h : Keep B R a b) (k : Keep B R b c) : Keep B R a c :=
  ⟨k.os.trans h.os, k.tape.trans h.tape, k.output.trans h.output, Nat.le_trans h.size k.size, fun i hi hr => (k.block i hi hr).trans (h.block i hi hr), fun i o ho hr hn => k.others i o (h.others i o ho hr hn) hr hn⟩
theorem Keep.of_below {B R : Nat} {w w' : World} (h : Below w.heap.size w w') (hB : B ≤ w.heap.size) : Keep B R w w' :=
  ⟨h.os, h.tape, h.output, h.size, fun k hk _ => h.block k (Nat.lt_of_lt_of_le hk hB), fun k _ ho _ _ => (h.block k (Array.getElem?_eq_some_iff.1 ho).1).trans ho⟩
theorem Keep.setCell {B R : Nat} {a w : World} (h : Keep B R a w) {p : Addr} (hp : p.block = R) (u : Value) : Keep B R a (w.setCell p u) :=
  ⟨h.os, h.tape, h.output, by rw [World.size_setCell]; exact h.size, fun k hk hr => (Below.heap_setCell w p u k (by omega)).trans (h.block k hk hr), fun k o ho hr hn => (Below.heap_setCell w p u k (by omega)).trans (h.others k o ho hr hn)⟩
/-- the reader's own memory: the tokens, its place, how many are open, the parts, the fault -/
structure RS (B R : Nat) (tv : Value) (toks : List Tv) (at_ op : Nat) (ps : List Pv) (fa fc : Int) (w : World) : Prop where
  hB : R < B
  le : B ≤ w.heap.size
  here : at_ ≤ toks.length
  row : ∃ pv, w.heap[R]? = some (.cells #[tv, .int .i64 (at_ : Int), .int .i64 (op : Int), pv, .int .i64 fa, .int .i64 fc] 110) ∧ w.ownsRow B 39 5 pv ps.length (pvsC ps)
  toks : ∃ (a : Option Addr) (b off cap : Nat), tv = .slice a toks.length cap ∧ (0 < toks.length → b < B ∧ b ≠ R ∧ a = some ⟨b, off, none⟩) ∧ TvAt w b off toks
end Go.Proofs.YtkicbmjjbnblfaaGreatDoor
namespace Go.Proofs.YtkicbmjjbnblfaaGreatDoor
open Go.RowKit
theorem lt_of_heap {w : World} {b : Nat} {o : Obj} (h : w.heap[b]? = some o) : b < w.heap.size := (Array.getElem?_eq_some_iff.1 h).1
theorem below5 {B b : Nat} {a w : World} (h : Below B a w) (hb : B ≤ b) (u1 u2 u3 u4 u5 : Value) : Below B a (((((w.setCell ⟨b, 0, none⟩ u1).setCell ⟨b, 1, none⟩ u2).setCell ⟨b, 2, none⟩ u3).setCell ⟨b, 3, none⟩ u4).setCell ⟨b, 4, none⟩ u5) :=
  ((((h.setCell (p := ⟨b, 0, none⟩) hb u1).setCell (p := ⟨b, 1, none⟩) hb u2).setCell (p := ⟨b, 2, none⟩) hb u3).setCell (p := ⟨b, 3, none⟩) hb u4).setCell (p := ⟨b, 4, none⟩) hb u5
set_option maxRecDepth 100000 in
set_option maxHeartbeats 3200000 in
theorem next_any {B R : Nat} {tv : Value} {toks : List Tv} {at_ op : Nat} {ps : List Pv} {fa fc : Int} {w : World} (h : RS B R tv toks at_ op ps fa fc w) (hl : toks.length ≤ 4398046510976) : Calls Tryz.prog 111 #[.pointer (some ⟨R, 0, none⟩)] w fun e w' => e = .returned (tvA (tokAt toks at_)) ∧ Below w.heap.size w w' := by
  obtain ⟨pv, hrow, _⟩ := h.row
  obtain ⟨a, b, off, cap, rfl, hA, hT⟩ := h.toks
  have hR := lt_of_heap hrow
  have a0 : ∀ o, (w.alloc o).cell? ⟨R, 0, none⟩ = some (.slice a toks.length cap) := fun o => (World.cell?_alloc_lt _ _ _ hR).trans (by rw [Lib.cell_of_heap hrow]; rfl)
  have a1 : ∀ o, (w.alloc o).cell? ⟨R, 1, none⟩ = some (.int .i64 (at_ : Int)) := fun o => (World.cell?_alloc_lt _ _ _ hR).trans (by rw [Lib.cell_of_heap hrow]; rfl)
  have hhere := h.here
  have B0 := hide ((Below.refl w.heap.size w).alloc (Nat.le_refl _) (.cells #[.int .i64 0, .string ⟨#[]⟩, .int .i64 0, .int .i64 0, .int .i64 0] 54))
  by_cases he : at_ = toks.length
  · have HE : Hid (tokAt toks at_ = noTv) := by
      show _ = _
      unfold tokAt
      rw [List.getD_eq_getElem?_getD, List.getElem?_eq_none (by omega)]; rfl
    have i1 : ((at_ : Int) == (toks.length : Int)) = true := by rw [beq_iff_eq]; omega
    clear hrow hA hT h
    generalize (toks.length) = N at *
    subst he
    go_enter Tryz.func111, Tryz.ntmps111
    go_wp2
    go_quiet (fail)
    go_wp2
    refine bodyPost_ret (v := tvA noTv) ?_ rfl ⟨by rw [HE.out], ?_⟩
    · simp [results, Tryz.results111, go_sem, tvA, noTv]
    · exact below5 (below_drawn B0.out _) (Nat.le_refl _) _ _ _ _ _
  · have hlt : at_ < toks.length := by omega
    obtain ⟨hbB, _, rfl⟩ := hA (by omega)
    obtain ⟨x, hx⟩ : ∃ x, toks[at_]? = some x := ⟨_, List.getElem?_eq_getElem hlt⟩
    obtain ⟨q0, q1, q2, q3, q4⟩ := hT at_ x hx
    have hbw : b < w.heap.size := Nat.lt_of_lt_of_le hbB h.le
    have c0 : ∀ o, (w.alloc o).cell? ⟨b, off + at_ * 5, none⟩ = some (.int .i64 x.k) := fun o => (World.cell?_alloc_lt _ _ _ hbw).trans q0
    have c1 : ∀ o, (w.alloc o).cell? ⟨b, off + at_ * 5 + 1, none⟩ = some (.string x.s) := fun o => (World.cell?_alloc_lt _ _ _ hbw).trans q1
    have c2 : ∀ o, (w.alloc o).cell? ⟨b, off + at_ * 5 + 2, none⟩ = some (.int .i64 x.n) := fun o => (World.cell?_alloc_lt _ _ _ hbw).trans q2
    have c3 : ∀ o, (w.alloc o).cell? ⟨b, off + at_ * 5 + 3, none⟩ = some (.int .i64 x.t) := fun o => (World.cell?_alloc_lt _ _ _ hbw).trans q3
    have c4 : ∀ o, (w.alloc o).cell? ⟨b, off + at_ * 5 + 4, none⟩ = some (.int .i64 x.at_) := fun o => (World.cell?_alloc_lt _ _ _ hbw).trans q4
    have HE : Hid (tokAt toks at_ = x) := by
      show _ = _
      unfold tokAt
      rw [List.getD_eq_getElem?_getD, hx]; rfl
    have i1 : ((at_ : Int) == (toks.length : Int)) = false := by rw [beq_eq_false_iff_ne]; omega
    have i2 : (at_ : Int) < (toks.length : Int) := by omega
    have i3 : (0 : Int) ≤ (at_ : Int) := by omega
    have i4 : (toks.length : Int) ≤ 4398046510976 := by omega
    clear hrow hA hT h q0 q1 q2 q3 q4 hx hlt he hl hhere
    generalize (toks.length) = N at *
    go_enter Tryz.func111, Tryz.ntmps111
    go_wp2
    go_quiet (fail)
    go_wp2
    go_region_with (fail)
    all_goals
      go_wp2
      refine bodyPost_ret (v := tvA x) ?_ rfl ⟨by rw [HE.out], ?_⟩
      · simp [results, Tryz.results111, go_sem, tvA]
      · exact below5 (below_drawn B0.out _) (Nat.le_refl _) _ _ _ _ _
set_option maxRecDepth 100000 in
set_option maxHeartbeats 3200000 in
theorem is_any {B R : Nat} {tv : Value} {toks : List Tv} {at_ op : Nat} {ps : List Pv} {fa fc : Int} {w : World} (h : RS B R tv toks at_ op ps fa fc w) (hl : toks.length ≤ 4398046510976) (kind : Int) (u : ByteArray) : Calls Tryz.prog 103 #[.pointer (some ⟨R, 0, none⟩), .int .i64 kind, .string u] w fun e w' => e = .returned (.bool (decide ((tokAt toks at_).k = kind ∧ (tokAt toks at_).s = u))) ∧ Below w.heap.size w w' := by
  have c := next_any h hl
  clear h hl
  generalize tokAt toks at_ = x at *
  obtain ⟨xk, xs, xn, xt, xa⟩ := x
  unfold tvA at c
  simp only [] at c ⊢
  have bt := beq_text xs u
  go_enter Tryz.func103, Tryz.ntmps103
  go_wp2_with fail
  refine c.mono ?_
  rintro e w1 ⟨rfl, hb1⟩
  have B1 := hide (hb1.alloc hb1.size (.cells #[.int .i64 xk, .string xs, .int .i64 xn, .int .i64 xt, .int .i64 xa] 54))
  clear c hb1
  by_cases hk : xk = kind
  · subst hk
    by_cases hs : xs = u
    · have hb : (xs.toList == u.toList) = true := by rw [bt]; exact decide_eq_true hs
      have HE := hide (decide_eq_true hs)
      clear bt hs
      go_wp2
      go_ret
      exact ⟨ret_bool HE.out.symm, B1.out⟩
    · have hb : (xs.toList == u.toList) = false := by rw [bt]; exact decide_eq_false hs
      have HE := hide (decide_eq_false hs)
      clear bt hs
      go_wp2
      go_ret
      exact ⟨ret_bool HE.out.symm, B1.out⟩
  · have HE : Hid (decide (xk = kind ∧ xs = u) = false) := decide_eq_false (fun q => hk q.1)
    have hb : (xk == kind) = false := by rw [beq_eq_false_iff_ne]; exact hk
    clear bt hk
    go_wp2
    go_ret
    exact ⟨ret_bool HE.out.symm, B1.out⟩
end Go.Proofs.YtkicbmjjbnblfaaGreatDoor
namespace Go.Proofs.YtkicbmjjbnblfaaGreatDoor
open Go.RowKit
/-- the operation of a row that a token is -/
def opRow (row : Int) (x : Tv) : Option Int := (opRows.find? fun r => decide (r.1 = row ∧ x.k = r.2.1 ∧ x.s = ⟨r.2.2.1.toArray⟩)).map (·.2.2.2)
theorem RS.below {B R : Nat} {tv : Value} {toks : List Tv} {at_ op : Nat} {ps : List Pv} {fa fc : Int} {w w' : World} (h : RS B R tv toks at_ op ps fa fc w) (hb : Below w.heap.size w w') : RS B R tv toks at_ op ps fa fc w' := by
  obtain ⟨pv, hrow, hown⟩ := h.row
  obtain ⟨a, b, off, cap, htv, hA, hT⟩ := h.toks
  refine ⟨h.hB, Nat.le_trans h.le hb.size, h.here, ⟨pv, by rw [hb.block R (lt_of_heap hrow)]; exact hrow, ⟨hown.1, ?_⟩⟩, ⟨a, b, off, cap, htv, hA, fun i x hx => ?_⟩⟩
  · rcases hown.2 with h | ⟨g, cap, cur, r1, r2, r3, r4⟩
    · exact .inl h
    · exact .inr ⟨g, cap, cur, r1, r2, by rw [hb.block g (lt_of_heap r3)]; exact r3, r4⟩
  · have hbB := (hA (by have := (List.getElem?_eq_some_iff.1 hx).1; omega)).1
    have hbw : b < w.heap.size := Nat.lt_of_lt_of_le hbB h.le
    obtain ⟨q0, q1, q2, q3, q4⟩ := hT i x hx
    exact ⟨(hb.cell (p := ⟨b, _, none⟩) hbw).trans q0, (hb.cell (p := ⟨b, _, none⟩) hbw).trans q1, (hb.cell (p := ⟨b, _, none⟩) hbw).trans q2, (hb.cell (p := ⟨b, _, none⟩) hbw).trans q3, (hb.cell (p := ⟨b, _, none⟩) hbw).trans q4⟩
def opOut (o : Option Int) : Value := match o with
  | some n => .tuple #[.int .i64 n, .bool true]
  | none => .tuple #[.int .i64 0, .bool false]
set_option maxRecDepth 100000 in
set_option maxHeartbeats 3200000 in
theorem operation_any {B R : Nat} {tv : Value} {toks : List Tv} {at_ op : Nat} {ps : List Pv} {fa fc : Int} {w : World} (h : RS B R tv toks at_ op ps fa fc w) (hl : toks.length ≤ 4398046510976) (row : Int) (hg : TabAt w 2 opTab) : Calls Tryz.prog 89 #[.pointer (some ⟨R, 0, none⟩), .int .i64 row] w fun e w' => e = .returned (opOut (opRow row (tokAt toks at_))) ∧ Below w.heap.size w w' := by
  have ix : Hid (∀ (k : Nat) (h : k < 17) (W : World), (Instr.index 88 (.agg opTab.toArray) (.int .i64 (k : Int))).run Tryz.prog W = .ok (.agg #[.int .i64 (opRows[k]'h).1, .int .i64 (opRows[k]'h).2.1, .string ⟨(opRows[k]'h).2.2.1.toArray⟩, .int .i64 (opRows[k]'h).2.2.2]) W) := op_idx
  obtain ⟨KT, hT⟩ : ∃ KT, Value.agg opTab.toArray = KT := ⟨_, rfl⟩
  rw [hT] at ix
  have HH := hide h
  have HLn := hide hl
  obtain ⟨F, hF⟩ : ∃ F : (Int × Int × Bs × Int) → Bool, F = fun r => decide (r.1 = row ∧ (tokAt toks at_).k = r.2.1 ∧ (tokAt toks at_).s = ⟨r.2.2.1.toArray⟩) := ⟨_, rfl⟩
  have HF := hide hF
  have HO : Hid (opRow row (tokAt toks at_) = (opRows.find? F).map (·.2.2.2)) := by show _ = _; rw [hF]; rfl
  clear h hl hF
  go_enter Tryz.func89, Tryz.ntmps89
  go_wp2_with ((with_reducible refine at_load (ty := 88) ?_); go_must (refine load_tab (b := 2) (t := opTab) (T := KT) rfl hg hT Tryz.underlying88 rfl size88 ?_))
  clear hg hT
  go_loopw [9] (fun i wr => ∃ k : Nat, k ≤ 17 ∧ i = .int .i64 (k : Int) ∧ Hid (Below w.heap.size w wr ∧ (opRows.drop k).find? F = opRows.find? F)) (fun i _ => 17 - (intOf i).toNat)
  case atStart => exact ⟨0, by omega, rfl, Below.refl _ _, rfl⟩
  case round =>
    obtain ⟨k, hk, rfl, hh⟩ := hrel
    have HB := hide hh.out.1
    have hf := hh.out.2
    clear hh
    by_cases hlt : k < 17
    · have x0 := ix.out k hlt
      have i1 : (k : Int) < 17 := by omega
      rw [List.drop_eq_getElem_cons (show k < opRows.length from hlt), List.find?_cons] at hf
      generalize (opRows[k]'hlt) = r at *
      obtain ⟨r0, r1, r2, r3⟩ := r
      simp only [] at x0 hf
      obtain ⟨u, hu⟩ : ∃ u : ByteArray, u = ⟨r2.toArray⟩ := ⟨_, rfl⟩
      rw [← hu] at x0
      have zr := HB.out.size
      have b1 := HB.out.alloc zr (.cells #[.int .i64 r0, .int .i64 r1, .string u, .int .i64 r3] 67)
      have c := is_any (HH.out.below b1) HLn.out r1 u
      have B1 := hide b1
      have HU := hide hu
      have HFF := hide hf
      clear ix b1 hu hf
      by_cases hr0 : r0 = row
      · subst hr0
        go_wp2_with fail
        refine c.mono ?_
        rintro e w1 ⟨rfl, hb1⟩
        have B2 := hide (B1.out.trans (hb1.mono B1.out.size))
        have z1 : wr.heap.size < (wr.alloc (.cells #[.int .i64 r0, .int .i64 r1, .string u, .int .i64 r3] 67)).heap.size := by rw [World.size_alloc]; omega
        have d3 : w1.cell? ⟨wr.heap.size, 3, none⟩ = some (.int .i64 r3) := (hb1.cell (p := ⟨wr.heap.size, 3, none⟩) z1).trans (by simp)
        clear hb1 c z1
        cases hq : decide ((tokAt toks at_).k = r1 ∧ (tokAt toks at_).s = u) with
        | true =>
          have HR : Hid (opRow r0 (tokAt toks at_) = some r3) := by
            show _ = _
            have hq2 := of_decide_eq_true hq
            have e1 : F (r0, r1, r2, r3) = true := by rw [HF.out]; exact decide_eq_true ⟨rfl, hq2.1, by rw [hq2.2, HU.out]⟩
            rw [HO.out, ← HFF.out, e1]; rfl
          clear hq
          go_wp2
          go_ret2
          exact ⟨by rw [HR.out]; rfl, B2.out⟩
        | false =>
          have HR : Hid ((opRows.drop (k + 1)).find? F = opRows.find? F) := by
            show _ = _
            have hq2 := of_decide_eq_false hq
            have e1 : F (r0, r1, r2, r3) = false := by rw [HF.out]; exact decide_eq_false (fun q => hq2 ⟨q.2.1, by rw [q.2.2, HU.out]⟩)
            rw [← HFF.out, e1]
          clear hq
          go_wp2
          go_roundw
          case rel => exact ⟨k + 1, by omega, by go_num, B2.out, HR.out⟩
          case measure => simp [intOf]; omega
      · have HR : Hid ((opRows.drop (k + 1)).find? F = opRows.find? F) := by
          show _ = _
          have e1 : F (r0, r1, r2, r3) = false := by rw [HF.out]; exact decide_eq_false (fun q => hr0 q.1)
          rw [← HFF.out, e1]
        have hb : (r0 == row) = false := by rw [beq_eq_false_iff_ne]; exact hr0
        clear c hr0
        go_wp2
        go_roundw
        case rel => exact ⟨k + 1, by omega, by go_num, B1.out, HR.out⟩
        case measure => simp [intOf]; omega
    · obtain rfl : k = 17 := by omega
      have HR : Hid (opRow row (tokAt toks at_) = none) := by
        show _ = _
        rw [HO.out, ← hf]; rfl
      clear hf ix
      go_wp2
      go_ret2
      exact ⟨by rw [HR.out]; rfl, HB.out⟩
end Go.Proofs.YtkicbmjjbnblfaaGreatDoor
