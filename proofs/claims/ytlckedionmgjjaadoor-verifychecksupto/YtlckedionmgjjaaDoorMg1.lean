/- Slices of ints that read as a list; appends of whole slices of ints. | typed: the fields of blocks; block.mayBe. | Names: plain; tables in memory. -/
import Derived.Test.YtlckedionmgjjaaDoorMg0
import Derived.OwnWalk
import Derived.Deep.DeepAppendWide
import Derived.Deep.QuietTactic
import Derived.BigQuiet
import Derived.Deep.DeepMust
import Derived.Lib.SmallJoins
import Derived.Laws.CopyOwn
import Derived.Lib.BufferMore
import Derived.Deep.MidRow
import Derived.Deep.WholeRow
import Derived.Great.BuildSlice
namespace Go.Proofs.YtlckedionmgjjaaDoor
open Go.RowKit
theorem hide {p : Prop} (h : p) : Hid p := h
theorem info3 : (Tryd.prog.info? 3).map (fun i => (i.zero, i.size, i.bytes)) = some (some (.int .i64 0), 1, 8) := by kernel_rfl
def intC (l : List Int) : List Value := l.map fun x => .int .i64 x
theorem intC_length (l : List Int) : (intC l).length = l.length := by rw [intC, List.length_map]
theorem intC_append (a b : List Int) : intC (a ++ b) = intC a ++ intC b := List.map_append
theorem intC_get (l : List Int) (i : Nat) : (intC l)[i]? = (l[i]?).map fun x => .int .i64 x := by rw [intC, List.getElem?_map]
theorem intC_one (l : List Int) : ∀ u ∈ intC l, u.oneCell' = true := fun u hu => by
  obtain ⟨d, _, rfl⟩ := List.mem_map.1 hu; rfl
/-- a slice that reads as a list -/
def ILst (w : World) (v : Value) (l : List Int) : Prop :=
  ∃ a b off cap, v = .slice a l.length cap ∧ (0 < l.length → b < w.heap.size ∧ a = some ⟨b, off, none⟩) ∧ ∀ i x, l[i]? = some x → w.cell? ⟨b, off + i, none⟩ = some (.int .i64 x)
theorem ILst.on {w w' : World} {v : Value} {l : List Int} (h : ILst w v l) (hb : Below w.heap.size w w') : ILst w' v l := by
  obtain ⟨a, b, off, cap, rfl, hA, hI⟩ := h
  refine ⟨a, b, off, cap, rfl, fun h => ⟨Nat.lt_of_lt_of_le (hA h).1 hb.size, (hA h).2⟩, fun i x hx => ?_⟩
  have hlt : b < w.heap.size := (hA (Nat.lt_of_le_of_lt (Nat.zero_le _) (List.getElem?_eq_some_iff.1 hx).1)).1
  exact (hb.cell (p := ⟨b, off + i, none⟩) hlt).trans (hI i x hx)
theorem ILst.nil (w : World) (c : Nat) : ILst w (.slice none 0 c) [] := ⟨none, 0, 0, c, rfl, fun h => absurd h (Nat.lt_irrefl 0), fun i x hx => by cases hx⟩
theorem ILst.of_owns {w : World} {base : Nat} {v : Value} {l : List Int} (h : w.ownsRow base 3 1 v l.length (intC l)) : ILst w v l := by
  rcases h.2 with ⟨hv, h0⟩ | ⟨g, cap, cur, hv, hb, hg, hn, hm, hc, ht⟩
  · obtain rfl := List.eq_nil_of_length_eq_zero h0
    subst hv
    exact ILst.nil w 0
  · subst hv
    refine ⟨_, g, 0, cap, rfl, fun _ => ⟨?_, rfl⟩, fun i x hx => ?_⟩
    · exact (Array.getElem?_eq_some_iff.1 hg).1
    · have hi : i < l.length := (List.getElem?_eq_some_iff.1 hx).1
      rw [Nat.zero_add, h.cellAt i (by omega), intC_get, hx]; rfl
theorem ILst.shape {w : World} {v : Value} {l : List Int} (h : ILst w v l) : ∃ a cap, v = .slice a l.length cap := by
  obtain ⟨a, b, off, cap, rfl, _⟩ := h
  exact ⟨a, cap, rfl⟩
/-- the places of a list, and the sum of the steps between the first k of them, and how often it jumped -/

theorem info2 : (Tryd.prog.info? 2).map (fun i => (i.zero, i.size, i.bytes)) = some (some (.int .i64 0), 1, 8) := by kernel_rfl
theorem run_append_nil3 (ty : Nat) (v : Value) (hv : ∃ a n cap, v = .slice a n cap ∧ n ≤ cap) (c : Nat) (W : World) : (Builtin.append_ #[22, 22] ty #[v, .slice none 0 c]).run Tryd.prog W = .ok v W := by
  obtain ⟨a, n, cap, rfl, hn⟩ := hv
  cases a <;> simp [Builtin.append_, go_sem, hn]
theorem owns_slice {w : World} {base n e s : Nat} {v : Value} {xs : List Value} (h : w.ownsRow base e s v n xs) : ∃ a cap, v = .slice a n cap ∧ n ≤ cap := by
  rcases h.2 with ⟨hv, h0⟩ | ⟨g', cap', cur, hv, hb, hg, hn, hm, hc, ht⟩
  · exact ⟨_, _, by rw [h0]; exact hv, by omega⟩
  · exact ⟨_, _, hv, hn⟩
theorem addr_at (b off j : Nat) : (⟨b, off, none⟩ : Addr).add j = ⟨b, off + j, none⟩ := by unfold Addr.add; split <;> simp_all
theorem run_append_nil2 (ty : Nat) (v : Value) (hv : ∃ a n cap, v = .slice a n cap ∧ n ≤ cap) (c : Nat) (W : World) : (Builtin.append_ #[23, 23] ty #[v, .slice none 0 c]).run Tryd.prog W = .ok v W := by
  obtain ⟨a, n, cap, rfl, hn⟩ := hv
  cases a <;> simp [Builtin.append_, go_sem, hn]
theorem run_append_ints (w : World) (base ty n : Nat) (v : Value) (xs : List Value) (hown : w.ownsRow base 3 1 v n xs) (u : Value) (l : List Int) (hL : ILst w u l) (hbytes : ((n + l.length) + (n + l.length) / 4 + 192) * 8 ≤ 281474976710656) (hbase : base ≤ w.heap.size) :
    ∃ v' w', (Builtin.append_ #[22, 22] ty #[v, u]).run Tryd.prog w = .ok v' w' ∧ w'.ownsRow base 3 1 v' (n + l.length) (xs ++ intC l) ∧ w.grownBy w' v.ownBlock := by
  obtain ⟨i0, hi, hz0, hz1, hz2⟩ := info_parts info3
  obtain ⟨a, b, off, c, rfl, hA, hI⟩ := hL
  have main : ∀ ad : Addr, a = some ad → (∀ j x, (intC l)[j]? = some x → w.cell? (ad.add j) = some x) → ∃ v' w', (Builtin.append_ #[22, 22] ty #[v, .slice a l.length c]).run Tryd.prog w = .ok v' w' ∧ w'.ownsRow base 3 1 v' (n + l.length) (xs ++ intC l) ∧ w.grownBy w' v.ownBlock := fun ad had hc => by
    subst had
    obtain ⟨v', w', hr, h2, h3, h4⟩ := run_append_own_wide (P := Tryd.prog) w base 22 ty 3 i0 _ 1 8 Tryd.underlying22 hi hz0 hz1 hz2 rfl (by omega) _ n xs hown ad l.length c (intC l) (by rw [intC_length]; omega) hc (intC_one l) (by unfold maxLen; omega) hbytes hbase
    exact ⟨v', w', hr, h2, h3⟩
  by_cases hn : 0 < l.length
  · obtain ⟨_, rfl⟩ := hA hn
    refine main _ rfl fun j x hx => ?_
    rw [intC_get] at hx
    cases hy : l[j]? with
    | none => rw [hy] at hx; cases hx
    | some y =>
      rw [hy] at hx
      have hx : Value.int .i64 y = x := by simpa using hx
      subst hx
      rw [addr_at]
      exact hI j y hy
  · have hl : l = [] := List.eq_nil_of_length_eq_zero (by omega)
    subst hl
    cases a with
    | some ad => exact main ad rfl (fun j x hx => by cases hx)
    | none =>
      obtain ⟨a, cap, hv, hc⟩ := owns_slice hown
      refine ⟨v, w, run_append_nil3 ty v ⟨_, _, _, hv, hc⟩ c w, ?_, ⟨rfl, rfl, rfl, Nat.le_refl _, fun _ _ _ => rfl⟩⟩
      show w.ownsRow base 3 1 v n (xs ++ [])
      rw [List.append_nil]; exact hown
theorem wpList_append_ints {w : World} {ops : Array Oper} {rest : List Oper} {o : Oper} {a : Act} {Q : Exit → Act → World → Prop} (hgd : Region.wanted o (yielded ops a.tmps) = true) (s x : Operand)
    (ho : o.op = .call { callee := .builtin .append, args := #[s, x], argTypes := #[22, 22] })
    (base n : Nat) (v : Value) (xs : List Value) (hs : a.eval s = v) (hown : w.ownsRow base 3 1 v n xs) (u : Value) (l : List Int) (hx : a.eval x = u) (hL : ILst w u l) (hbytes : ((n + l.length) + (n + l.length) / 4 + 192) * 8 ≤ 281474976710656) (hbase : base ≤ w.heap.size)
    (h : ∀ v' w', w'.ownsRow base 3 1 v' (n + l.length) (xs ++ intC l) → w.grownBy w' v.ownBlock → wpList Tryd.prog ops Q rest (a.put o.dst v') w') : wpList Tryd.prog ops Q (o :: rest) a w := by
  refine wpList_step fun K hK => ?_
  rw [if_pos hgd]
  obtain ⟨v', w', hr, h2, h3⟩ := run_append_ints w base o.type n v xs hown u l hL hbytes hbase
  unfold Oper.wp execOp
  simp only [ho, resolve, invoke, builtin, Sem.run_bind, Sem.run_pure, Result.andThen_ok, List.map_toArray, List.map_cons, List.map_nil, hs, hx, hr]
  exact hK _ _ (h v' w' h2 h3)
theorem ILst.lit (w : World) (x : Int) : ILst (w.alloc (.cells #[.int .i64 x] 3)) (.slice (some ⟨w.heap.size, 0, none⟩) 1 1) [x] :=
  ILst.of_owns (base := w.heap.size) (l := [x]) (World.ownsRow_lit (e := 3) (size := 1) w #[.int .i64 x] 1 (Nat.le_refl _) (by decide) rfl)
/-- what lies in a slice of one's own, or below, stays behind an append -/
theorem below_app {w w1 w2 : World} {base n : Nat} {v : Value} {xs : List Value} (h : Below base w w1) (hb : base ≤ w1.heap.size) (ho : w1.ownsRow base 3 1 v n xs) (hg : w1.grownBy w2 v.ownBlock) : Below base w w2 :=
  h.grown hg hb fun k hk => (ho.lt k hk).1
theorem run_append_nums (w : World) (base ty n : Nat) (v : Value) (xs : List Value) (hown : w.ownsRow base 2 1 v n xs) (u : Value) (l : List Int) (hL : ILst w u l) (hbytes : ((n + l.length) + (n + l.length) / 4 + 192) * 8 ≤ 281474976710656) (hbase : base ≤ w.heap.size) :
    ∃ v' w', (Builtin.append_ #[23, 23] ty #[v, u]).run Tryd.prog w = .ok v' w' ∧ w'.ownsRow base 2 1 v' (n + l.length) (xs ++ intC l) ∧ w.grownBy w' v.ownBlock := by
  obtain ⟨i0, hi, hz0, hz1, hz2⟩ := info_parts info2
  obtain ⟨a, b, off, c, rfl, hA, hI⟩ := hL
  have main : ∀ ad : Addr, a = some ad → (∀ j x, (intC l)[j]? = some x → w.cell? (ad.add j) = some x) → ∃ v' w', (Builtin.append_ #[23, 23] ty #[v, .slice a l.length c]).run Tryd.prog w = .ok v' w' ∧ w'.ownsRow base 2 1 v' (n + l.length) (xs ++ intC l) ∧ w.grownBy w' v.ownBlock := fun ad had hc => by
    subst had
    obtain ⟨v', w', hr, h2, h3, h4⟩ := run_append_own_wide (P := Tryd.prog) w base 23 ty 2 i0 _ 1 8 Tryd.underlying23 hi hz0 hz1 hz2 rfl (by omega) _ n xs hown ad l.length c (intC l) (by rw [intC_length]; omega) hc (intC_one l) (by unfold maxLen; omega) hbytes hbase
    exact ⟨v', w', hr, h2, h3⟩
  by_cases hn : 0 < l.length
  · obtain ⟨_, rfl⟩ := hA hn
    refine main _ rfl fun j x hx => ?_
    rw [intC_get] at hx
    cases hy : l[j]? with
    | none => rw [hy] at hx; cases hx
    | some y =>
      rw [hy] at hx
      have hx : Value.int .i64 y = x := by simpa using hx
      subst hx
      rw [addr_at]
      exact hI j y hy
  · have hl : l = [] := List.eq_nil_of_length_eq_zero (by omega)
    subst hl
    cases a with
    | some ad => exact main ad rfl (fun j x hx => by cases hx)
    | none =>
      obtain ⟨a, cap, hv, hc⟩ := owns_slice hown
      refine ⟨v, w, run_append_nil2 ty v ⟨_, _, _, hv, hc⟩ c w, ?_, ⟨rfl, rfl, rfl, Nat.le_refl _, fun _ _ _ => rfl⟩⟩
      show w.ownsRow base 2 1 v n (xs ++ [])
      rw [List.append_nil]; exact hown
theorem wpList_append_nums {w : World} {ops : Array Oper} {rest : List Oper} {o : Oper} {a : Act} {Q : Exit → Act → World → Prop} (hgd : Region.wanted o (yielded ops a.tmps) = true) (s x : Operand)
    (ho : o.op = .call { callee := .builtin .append, args := #[s, x], argTypes := #[23, 23] })
    (base n : Nat) (v : Value) (xs : List Value) (hs : a.eval s = v) (hown : w.ownsRow base 2 1 v n xs) (u : Value) (l : List Int) (hx : a.eval x = u) (hL : ILst w u l) (hbytes : ((n + l.length) + (n + l.length) / 4 + 192) * 8 ≤ 281474976710656) (hbase : base ≤ w.heap.size)
    (h : ∀ v' w', w'.ownsRow base 2 1 v' (n + l.length) (xs ++ intC l) → w.grownBy w' v.ownBlock → wpList Tryd.prog ops Q rest (a.put o.dst v') w') : wpList Tryd.prog ops Q (o :: rest) a w := by
  refine wpList_step fun K hK => ?_
  rw [if_pos hgd]
  obtain ⟨v', w', hr, h2, h3⟩ := run_append_nums w base o.type n v xs hown u l hL hbytes hbase
  unfold Oper.wp execOp
  simp only [ho, resolve, invoke, builtin, Sem.run_bind, Sem.run_pure, Result.andThen_ok, List.map_toArray, List.map_cons, List.map_nil, hs, hx, hr]
  exact hK _ _ (h v' w' h2 h3)
/-- what lies in a slice of one's own, or below, stays behind an append -/
theorem below_app2 {w w1 w2 : World} {base n : Nat} {v : Value} {xs : List Value} (h : Below base w w1) (hb : base ≤ w1.heap.size) (ho : w1.ownsRow base 2 1 v n xs) (hg : w1.grownBy w2 v.ownBlock) : Below base w w2 :=
  h.grown hg hb fun k hk => (ho.lt k hk).1
theorem blw {w w1 w2 : World} (c1 : Below w.heap.size w w1) (c2 : Below w1.heap.size w1 w2) : Below w.heap.size w w2 := c1.trans (c2.mono c1.size)
theorem blw_alloc {w w1 : World} (h : Below w.heap.size w w1) (o : Obj) : Below w.heap.size w (w1.alloc o) := h.alloc h.size o
theorem own_one (w : World) (base : Nat) (x : Int) (hb : base ≤ w.heap.size) : (w.alloc (.cells #[.int .i64 x] 3)).ownsRow base 3 1 (.slice (some ⟨w.heap.size, 0, none⟩) 1 1) 1 (intC [x]) :=
  World.ownsRow_lit (e := 3) (size := 1) w #[.int .i64 x] 1 hb (by decide) rfl
theorem ILst.owned1 {w : World} {base : Nat} {v : Value} {x : Int} {l : List Int} (h : w.ownsRow base 3 1 v (1 + l.length) (intC [x] ++ intC l)) : ILst w v (x :: l) := by
  rw [Nat.add_comm] at h
  exact ILst.of_owns (l := x :: l) h
theorem own_none2 (w : World) (base : Nat) (hb : base ≤ w.heap.size) : (w.alloc (.cells #[] 2)).ownsRow base 2 1 (.slice (some ⟨w.heap.size, 0, none⟩) 0 0) 0 (intC []) :=
  World.ownsRow_lit (e := 2) (size := 1) w #[] 0 hb (by decide) rfl
/-- a row of numbers, with room behind -/
def Rw (w : World) (g : Nat) (l : List Int) : Prop := ∃ cur, w.heap[g]? = some (.cells cur 2 (0, 0)) ∧ cur.toList.take l.length = intC l
theorem Rw.cell {w : World} {g : Nat} {l : List Int} (h : Rw w g l) (k : Nat) {x : Int} (hx : l[k]? = some x) : w.cell? ⟨g, k, none⟩ = some (.int .i64 x) := by
  obtain ⟨cur, hh, ht⟩ := h
  rw [Lib.cell_of_heap hh]
  have hk : k < l.length := (List.getElem?_eq_some_iff.1 hx).1
  have e : (cur.toList.take l.length)[k]? = some (.int .i64 x) := by rw [ht, intC_get, hx]; rfl
  rw [List.getElem?_take_of_lt hk, Array.getElem?_toList] at e
  exact e
theorem Rw.fr {w : World} {g : Nat} {l : List Int} (h : Rw w g l) (k : Nat) : w.frozen? ⟨g, k, none⟩ = false := by
  obtain ⟨cur, hh, ht⟩ := h
  exact Lib.frozen_of_heap hh k
theorem Rw.lt {w : World} {g : Nat} {l : List Int} (h : Rw w g l) : g < w.heap.size := by
  obtain ⟨cur, hh, ht⟩ := h
  exact (Array.getElem?_eq_some_iff.1 hh).1
theorem Rw.on {w w' : World} {g B : Nat} {l : List Int} (h : Rw w g l) (hb : Below B w w') (hB : g < B) : Rw w' g l := by
  obtain ⟨cur, hh, ht⟩ := h
  exact ⟨cur, (hb.block g hB).trans hh, ht⟩
theorem Rw.drew {w : World} {g : Nat} {l : List Int} (h : Rw w g l) (n : Nat) : Rw (w.drewN n) g l := h
theorem Rw.set {w : World} {g : Nat} {l : List Int} (h : Rw w g l) (k : Nat) (x : Int) {m : List Int} (hm : l.set k x = m) : Rw (w.setCell ⟨g, k, none⟩ (.int .i64 x)) g m := by
  subst hm
  obtain ⟨cur, hh, ht⟩ := h
  refine ⟨_, Lib.heap_setCell_same hh _, ?_⟩
  rw [Array.toList_setIfInBounds, List.length_set, List.take_set, ht]
  refine List.ext_getElem? fun i => ?_
  rw [List.getElem?_set, intC_get, intC_get, intC_length, List.getElem?_set]
  by_cases e : k = i
  · subst e
    by_cases hk : k < l.length
    · simp [hk]
    · simp [hk]
  · rw [if_neg e, if_neg e]
theorem Rw.far {w : World} {g : Nat} {l : List Int} (h : Rw w g l) {b : Nat} (hb : g ≠ b) (k : Nat) (v : Value) : Rw (w.setCell ⟨b, k, none⟩ v) g l := by
  obtain ⟨cur, hh, ht⟩ := h
  exact ⟨cur, (heap_setCell_other w ⟨b, k, none⟩ g v hb).trans hh, ht⟩
theorem Rw.ilst {w : World} {g : Nat} {l : List Int} (h : Rw w g l) (n cap : Nat) (hn : n = l.length) : ILst w (.slice (some ⟨g, 0, none⟩) n cap) l := by
  subst hn
  refine ⟨_, g, 0, cap, rfl, fun _ => ⟨h.lt, rfl⟩, fun i x hx => ?_⟩
  rw [Nat.zero_add]
  exact h.cell i hx
/-- what an append made, of at least one number -/
theorem Rw.of_owns {w : World} {base n : Nat} {v : Value} {l : List Int} (h : w.ownsRow base 2 1 v n (intC l)) (hn : 0 < n) (hl : n = l.length) : ∃ g cap, v = .slice (some ⟨g, 0, none⟩) n cap ∧ base ≤ g ∧ n ≤ cap ∧ Rw w g l := by
  rcases h.2 with ⟨_, h0⟩ | ⟨g, cap, cur, hv, hb, hg, hc, hm, hs, ht⟩
  · omega
  · refine ⟨g, cap, hv, hb, hc, cur, hg, ?_⟩
    rw [← hl]
    rw [Nat.mul_one] at ht
    exact ht
theorem below_drewN {B : Nat} {a w : World} (h : Below B a w) (n : Nat) : Below B a (w.drewN n) := h.trans ⟨rfl, rfl, rfl, Nat.le_refl _, fun _ _ => rfl⟩
end Go.Proofs.YtlckedionmgjjaaDoor
namespace Go.Proofs.YtlckedionmgjjaaDoor
open Go.RowKit
/-- of each field its type, and whether it may be set -/
def fldK (k : Int) : List (Int × Bool) :=
  if k = 1 ∨ k = 2 ∨ k = 3 then [(1, true), (4, true), (1, false), (4, false), (4, false), (1, false)]
  else if k = 4 ∨ k = 5 then [(1, true), (1, true), (2, true), (1, false), (2, false), (1, false)]
  else if k = 6 ∨ k = 7 then [(1, true), (1, false), (1, false)]
  else if k = 8 ∨ k = 9 then [(1, true), (1, true), (1, false)]
  else if k = 10 then [(1, true), (1, true), (1, true), (3, false), (1, false), (2, false)] else []
theorem fldK_len (k : Int) : (fldK k).length ≤ 6 := by
  unfold fldK
  repeat' split
  all_goals decide
def FLst (w : World) (v : Value) (l : List (Int × Bool)) : Prop :=
  ∃ (a : Option Addr) (b cap : Nat), v = .slice a l.length cap ∧ (0 < l.length → b < w.heap.size ∧ a = some ⟨b, 0, none⟩) ∧
    ∀ i r, l[i]? = some r → ∃ s, w.cell? ⟨b, i * 3, none⟩ = some (.string s) ∧ w.cell? ⟨b, i * 3 + 1, none⟩ = some (.int .i64 r.1) ∧ w.cell? ⟨b, i * 3 + 2, none⟩ = some (.bool r.2)
theorem FLst.on {w w' : World} {v : Value} {l : List (Int × Bool)} (h : FLst w v l) (hb : Below w.heap.size w w') : FLst w' v l := by
  obtain ⟨a, b, cap, rfl, hb0, hI⟩ := h
  refine ⟨a, b, cap, rfl, fun h => ⟨by have := hb.size; have := (hb0 h).1; omega, (hb0 h).2⟩, fun i x hx => ?_⟩
  have hlt : b < w.heap.size := (hb0 (by have := (List.getElem?_eq_some_iff.1 hx).1; omega)).1
  obtain ⟨s, h1, h2, h3⟩ := hI i x hx
  exact ⟨s, (hb.cell (p := ⟨b, _, none⟩) hlt).trans h1, (hb.cell (p := ⟨b, _, none⟩) hlt).trans h2, (hb.cell (p := ⟨b, _, none⟩) hlt).trans h3⟩
/-- rows of cells that read so -/
def rowsOk : List Value → List (Int × Bool) → Prop
  | [], [] => True
  | .string _ :: .int .i64 t :: .bool b :: r, (t', b') :: l => t = t' ∧ b = b' ∧ rowsOk r l
  | _, _ => False
theorem rowsOk_get : ∀ (cs : List Value) (l : List (Int × Bool)), rowsOk cs l → ∀ i r, l[i]? = some r → ∃ s, cs[i * 3]? = some (.string s) ∧ cs[i * 3 + 1]? = some (.int .i64 r.1) ∧ cs[i * 3 + 2]? = some (.bool r.2)
  | [], [], _, i, r, h => by cases h
  | .string s :: .int .i64 t :: .bool b :: cs, (t', b') :: l, h, 0, r, hr => by
    obtain ⟨rfl, rfl, _⟩ := h
    obtain rfl := Option.some.inj (show some (t, b) = some r from hr)
    exact ⟨s, rfl, rfl, rfl⟩
  | .string s :: .int .i64 t :: .bool b :: cs, (t', b') :: l, h, i + 1, r, hr => by
    have := rowsOk_get cs l h.2.2 i r hr
    rw [show (i + 1) * 3 = i * 3 + 3 from by omega]
    exact this
theorem FLst.new (w : World) (l : List (Int × Bool)) (t n : Nat) (h : l.length = n) (cs : Array Value) (hc : rowsOk cs.toList l) : FLst (w.alloc (.cells cs t)) (.slice (some ⟨w.heap.size, 0, none⟩) n n) l := by
  subst h
  refine ⟨_, w.heap.size, _, rfl, fun _ => ⟨by simp, rfl⟩, fun i r hr => ?_⟩
  have key : ∀ j u, cs.toList[j]? = some u → (w.alloc (.cells cs t)).cell? ⟨w.heap.size, j, none⟩ = some u := fun j u hu => by
    rw [Lib.cell_of_heap (heap_alloc_new w _)]
    rw [Array.getElem?_toList] at hu
    exact hu
  obtain ⟨s, h1, h2, h3⟩ := rowsOk_get _ _ hc i r hr
  exact ⟨s, key _ _ h1, key _ _ h2, key _ _ h3⟩
def kindOk (k : Int) : Bool := decide (1 ≤ k) && decide (k ≤ 10)
theorem kindOk_iff (k : Int) : kindOk k = true ↔ 1 ≤ k ∧ k ≤ 10 := by unfold kindOk; simp
set_option maxRecDepth 100000 in
set_option maxHeartbeats 3200000 in
theorem fields_ok (k : Int) (h : 1 ≤ k ∧ k ≤ 10) (w : World) : Calls Tryd.prog 76 #[.int .i64 k] w fun e w' => (∃ v, e = .returned (.tuple #[v, .int .i64 0]) ∧ FLst w' v (fldK k)) ∧ Below w.heap.size w w' := by
  have hk : k = 1 ∨ k = 2 ∨ k = 3 ∨ k = 4 ∨ k = 5 ∨ k = 6 ∨ k = 7 ∨ k = 8 ∨ k = 9 ∨ k = 10 := by omega
  clear h
  rcases hk with rfl | rfl | rfl | rfl | rfl | rfl | rfl | rfl | rfl | rfl
  all_goals
    go_enter Tryd.func76, Tryd.ntmps76
    go_wp2
    go_ret2
    refine ⟨⟨_, rfl, ?_⟩, (Below.refl w.heap.size w).alloc (Nat.le_refl _) _⟩
    refine FLst.new w _ 109 _ ?_ _ ?_
    · rfl
    · simp [rowsOk, fldK]
set_option maxRecDepth 100000 in
set_option maxHeartbeats 3200000 in
theorem fields_no (k : Int) (h : ¬ (1 ≤ k ∧ k ≤ 10)) (w : World) : Calls Tryd.prog 76 #[.int .i64 k] w fun e w' => e = .returned (.tuple #[.slice none 0 0, .int .i64 92]) ∧ w' = w := by
  have h1 : (k == 1) = false := by rw [beq_eq_false_iff_ne]; omega
  have h2 : (k == 2) = false := by rw [beq_eq_false_iff_ne]; omega
  have h3 : (k == 3) = false := by rw [beq_eq_false_iff_ne]; omega
  have h4 : (k == 4) = false := by rw [beq_eq_false_iff_ne]; omega
  have h5 : (k == 5) = false := by rw [beq_eq_false_iff_ne]; omega
  have h6 : (k == 6) = false := by rw [beq_eq_false_iff_ne]; omega
  have h7 : (k == 7) = false := by rw [beq_eq_false_iff_ne]; omega
  have h8 : (k == 8) = false := by rw [beq_eq_false_iff_ne]; omega
  have h9 : (k == 9) = false := by rw [beq_eq_false_iff_ne]; omega
  have h10 : (k == 10) = false := by rw [beq_eq_false_iff_ne]; omega
  clear h
  go_enter Tryd.func76, Tryd.ntmps76
  go_wp2
  go_ret2
  exact ⟨rfl, rfl⟩
end Go.Proofs.YtlckedionmgjjaaDoor
namespace Go.Proofs.YtlckedionmgjjaaDoor.Ex
open Go.RowKit
abbrev Bs := List UInt8
def isDig (c : UInt8) : Bool := decide (48 ≤ c) && decide (c ≤ 57)
def kwB : List Bs := [[80, 82, 79, 71, 82, 65, 77], [69, 78, 68, 95, 80, 82, 79, 71, 82, 65, 77], [86, 65, 82], [86, 65, 82, 95, 73, 78, 80, 85, 84], [86, 65, 82, 95, 79, 85, 84, 80, 85, 84], [69, 78, 68, 95, 86, 65, 82], [65, 82, 82, 65, 89], [79, 70], [66, 79, 79, 76], [73, 78, 84], [68, 73, 78, 84], [84, 73, 77, 69], [84, 79, 78], [84, 79, 70], [84, 80], [67, 84, 85], [67, 84, 68], [82, 95, 84, 82, 73, 71], [70, 95, 84, 82, 73, 71], [83, 82], [82, 83], [81, 85, 65, 68], [73, 70], [84, 72, 69, 78], [69, 76, 83, 73, 70], [69, 76, 83, 69], [69, 78, 68, 95, 73, 70], [67, 65, 83, 69], [69, 78, 68, 95, 67, 65, 83, 69], [87, 72, 73, 76, 69], [68, 79], [69, 78, 68, 95, 87, 72, 73, 76, 69], [70, 79, 82], [84, 79], [66, 89], [69, 78, 68, 95, 70, 79, 82], [82, 69, 80, 69, 65, 84], [85, 78, 84, 73, 76], [69, 78, 68, 95, 82, 69, 80, 69, 65, 84], [69, 88, 73, 84], [82, 69, 84, 85, 82, 78], [65, 78, 68], [79, 82], [88, 79, 82], [78, 79, 84], [77, 79, 68], [84, 82, 85, 69], [70, 65, 76, 83, 69], [84, 79, 95, 73, 78, 84], [84, 79, 95, 68, 73, 78, 84], [84, 79, 95, 84, 73, 77, 69]]
def capC (c : UInt8) : Bool := (decide (65 ≤ c) && decide (c ≤ 90)) || (isDig c || decide (c = 95))
def wordB (s : Bs) : Bool := match s with
  | [] => false
  | c :: r => decide (r.length + 1 ≤ 24) && (!isDig c && (c :: r).all capC)
def nameB (s : Bs) : Bool := !(kwB.contains s) && wordB s
theorem hide {p : Prop} (h : p) : Hid p := h
theorem ret_bool {a b : Bool} (h : a = b) : Ending.returned (.bool a) = .returned (.bool b) := by rw [h]
theorem ret_int {k : IntKind} {a b : Int} (h : a = b) : Ending.returned (.int k a) = .returned (.int k b) := by rw [h]
theorem text_len (s : ByteArray) : s.data.toList.length = s.size := by rw [Array.length_toList]; rfl
theorem text_ext {a b : ByteArray} (h : a.data.toList = b.data.toList) : a = b := ByteArray.ext (Array.toList_inj.1 h)
theorem list_size (l : List UInt8) : (⟨l.toArray⟩ : ByteArray).size = l.length := by show l.toArray.size = _; simp
theorem of_list (t : ByteArray) (l : List UInt8) (h : t.data.toList = l) : t = ⟨l.toArray⟩ := text_ext (by rw [h])
theorem to_list (t : ByteArray) : t = ⟨t.data.toList.toArray⟩ := of_list _ _ rfl
theorem u8_le {a b : UInt8} : a ≤ b ↔ (a.toNat : Int) ≤ (b.toNat : Int) := by rw [UInt8.le_iff_toNat_le]; omega
theorem u8_eq {a b : UInt8} : a = b ↔ (a.toNat : Int) = (b.toNat : Int) := by rw [← UInt8.toNat_inj]; omega
theorem dig_int (c : UInt8) : isDig c = (decide ((48 : Int) ≤ (c.toNat : Int)) && decide ((c.toNat : Int) ≤ 57)) := by
  unfold isDig
  rw [Bool.eq_iff_iff]
  simp only [Bool.and_eq_true, decide_eq_true_eq, u8_le]
  exact Iff.rfl
theorem byte_lt (c : UInt8) : (c.toNat : Int) < 256 := by have := c.toNat_lt; omega
theorem run_idx (s : ByteArray) (k : Nat) (c : UInt8) (h : s.data.toList[k]? = some c) (W : World) : (Instr.index 9 (.string s) (.int .i64 (k : Int))).run Tryd.prog W = .ok (.int .u8 (c.toNat : Int)) W := by
  have e : s[k]? = some c := by
    have hk : k < s.size := by rw [← text_len]; exact (List.getElem?_eq_some_iff.1 h).1
    rw [Array.getElem?_toList] at h
    have h' := (Array.getElem?_eq_some_iff.1 h).2
    simp [hk]; exact h'
  have hk : k < s.size := by rw [← text_len]; exact (List.getElem?_eq_some_iff.1 h).1
  simp only [Instr.index, asIntOf, Sem.run_bind, Sem.run_pure, Result.andThen_ok, run_underlying Tryd.underlying9]
  rw [if_pos (by omega), Int.toNat_natCast]
  simp [e]
def TabAt (w : World) (b : Nat) (t : List Value) : Prop := ∀ k v, t[k]? = some v → w.cell? ⟨b, k, none⟩ = some v
def kwTab : List Value := kwB.map fun s => .string ⟨s.toArray⟩
theorem TabAt.below {B b : Nat} {w w' : World} {t : List Value} (h : TabAt w b t) (hb : Below B w w') (hB : b < B) : TabAt w' b t := fun k v e => (hb.cell (p := ⟨b, k, none⟩) hB).trans (h k v e)
theorem TabAt.alloc {b : Nat} {w : World} {t : List Value} (h : TabAt w b t) (hb : b < w.heap.size) (o : Obj) : TabAt (w.alloc o) b t := h.below ((Below.refl w.heap.size w).alloc (Nat.le_refl _) o) hb
theorem at_load {P : Program} {ops : Array Oper} {rest : List Oper} {a : Act} {w : World} {Q : Exit → Act → World → Prop} {pos : String} {after : Array Edge} {dst : Option Tmp} {ty ty' : TypeId} {x : Operand} {g : Option (Nat × Bool)}
    (h : wpList P ops Q ({ dst := dst, op := .load ty x, type := ty', pos := pos, after := after, guard := g } :: rest) a w) : wpList P ops Q ({ dst := dst, op := .load ty x, type := ty', pos := pos, after := after, guard := g } :: rest) a w := h
theorem load_tab {ops : Array Oper} {rest : List Oper} {a : Act} {w : World} {Q : Exit → Act → World → Prop} {pos : String} {after : Array Edge} {dst : Option Tmp} {ty ty' : TypeId} {x : Operand} {b : Nat} {t : List Value} {T : Value} {d : TypeDesc}
    (hx : a.eval x = .pointer (some ⟨b, 0, none⟩)) (h : TabAt w b t) (hT : Value.agg t.toArray = T) (hu : Tryd.prog.underlying ty = some d) (hd : d.isRow = true) (hi : (Tryd.prog.info? ty).map (·.size) = some t.length)
    (k : wpList Tryd.prog ops Q rest (a.put dst T) w) : wpList Tryd.prog ops Q ({ dst := dst, op := .load ty x, type := ty', pos := pos, after := after, guard := none } :: rest) a w :=
  wpList_load_mid rfl ty x rfl b 0 hx t d (fun j v e => by rw [Nat.zero_add]; exact h j v e) hu hd hi (by rw [hT]; exact k)
theorem index_cell {ty e : TypeId} {n : Nat} (hu : Tryd.prog.underlying ty = some (.array n e)) (ha : ∀ W, (isAgg e).run Tryd.prog W = .ok false W) (hz : ∀ W, (sizeOf e).run Tryd.prog W = .ok 1 W) (cs : Array Value) (k : Nat) (hk : k < n) (v : Value) (hv : cs[k]? = some v) (W : World) :
    (Instr.index ty (.agg cs) (.int .i64 (k : Int))).run Tryd.prog W = .ok v W := by
  simp only [Instr.index, asIntOf, Sem.run_bind, Sem.run_pure, Result.andThen_ok, run_underlying hu]
  rw [if_pos ⟨by omega, by omega⟩]
  simp only [Sem.run_bind, hz, Result.andThen_ok, part, ha, Bool.false_eq_true, if_false, Int.toNat_natCast, Nat.mul_one, hv, Sem.run_pure]
theorem index_row {ty e : TypeId} {n m : Nat} (hu : Tryd.prog.underlying ty = some (.array n e)) (ha : ∀ W, (isAgg e).run Tryd.prog W = .ok true W) (hz : ∀ W, (sizeOf e).run Tryd.prog W = .ok m W) (cs : Array Value) (k : Nat) (hk : k < n) (vs : Array Value) (hv : cs.extract (k * m) (k * m + m) = vs) (W : World) :
    (Instr.index ty (.agg cs) (.int .i64 (k : Int))).run Tryd.prog W = .ok (.agg vs) W := by
  simp only [Instr.index, asIntOf, Sem.run_bind, Sem.run_pure, Result.andThen_ok, run_underlying hu]
  rw [if_pos ⟨by omega, by omega⟩]
  simp only [Sem.run_bind, hz, Result.andThen_ok, part, ha, if_true, Int.toNat_natCast, hv, Sem.run_pure]
end Go.Proofs.YtlckedionmgjjaaDoor.Ex