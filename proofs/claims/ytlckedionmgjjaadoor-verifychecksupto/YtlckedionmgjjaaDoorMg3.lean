/- Images looked at: plain definitions, and what follows of them (no program). | verify: stacks in memory; take, leave. | The contracts of the document's Fits and Has; of typeSet.has and operation.result. -/
import Derived.Test.YtlckedionmgjjaaDoorMg2
import Derived.Test.YtlckedionmgjjaaDoorMg0
import Derived.Deep.MidRow
import Derived.Deep.RegionHeld3
import Derived.Deep.QuietTactic
import Derived.BigQuiet
namespace Go.Proofs.YtlckedionmgjjaaDoor
open Go.RowKit
abbrev Stk := List Int
def takeS (ts : List Int) (s : Stk) : Option Stk := match s.getLast? with | none => none | some t => if ts.contains t then some s.dropLast else none
def leaveS (t : Int) (s : Stk) : Option Stk := if s.length = 64 then none else some (s ++ [t])
def tyC (ty : List Int) (c : Int) : Int := ty.getD c.toNat 0
def passS (ty : List Int) (i : Ins) (s : Stk) : Option Stk :=
  if i.op = 1 then leaveS i.a s
  else if i.op = 2 then leaveS (tyC ty i.a) s
  else if i.op = 3 then takeS [tyC ty i.a] s
  else if i.op = 4 then (takeS [2, 3] s).bind (leaveS (tyC ty i.a))
  else if i.op = 5 then (takeS [tyC ty i.a] s).bind (takeS [2, 3])
  else if i.op = 6 then ((takeS [i.b] s).bind (takeS [i.b])).bind (leaveS (Four.resN i.a i.b).1)
  else if i.op = 7 then (takeS [i.b] s).bind (leaveS i.b)
  else if i.op = 8 then (takeS [i.a] s).bind (leaveS i.b)
  else if i.op = 10 then takeS [1] s
  else some s
def goesS (at' : Nat) (i : Ins) : List Nat := if i.op = 12 then [] else if i.op = 9 then [i.a.toNat] else if i.op = 10 then [at' + 1, i.a.toNat] else [at' + 1]
/-- how far a look at an image is: the stack that a place is reached with; whether it waits; how much lay there at most -/
structure Vs where
  rs : List (Option Stk)
  wt : List Bool
  dp : Nat
deriving DecidableEq
def Vs.at (m : Vs) (k : Nat) : Option Stk := m.rs.getD k none
def reachS (m : Vs) (k : Nat) (s : Stk) : Option Vs :=
  match m.at k with
  | some s' => if s' = s then some m else none
  | none => some ⟨m.rs.set k (some s), m.wt.set k true, m.dp⟩
def followS (n k : Nat) (s : Stk) : List Nat → Vs → Vs ⊕ (Int × Int)
  | [], m => .inl m
  | j :: r, m => if j = n then .inr ((k : Int), 150) else match reachS m j s with | none => .inr ((j : Int), 151) | some m' => followS n k s r m'
def insAt (cd : List Ins) (k : Nat) : Ins := cd.getD k ⟨0, 0, 0, 0⟩
def lookS (ty : List Int) (cd : List Ins) (m : Vs) (k : Nat) : Vs ⊕ (Int × Int) :=
  match passS ty (insAt cd k) ((m.at k).getD []) with
  | none => .inr ((k : Int), 151)
  | some t => followS cd.length k t (goesS k (insAt cd k)) ⟨m.rs, m.wt, max m.dp t.length⟩
def leastS : List Bool → Option Nat
  | [] => none
  | true :: _ => some 0
  | false :: r => (leastS r).map (· + 1)
def runS (ty : List Int) (cd : List Ins) : Nat → Vs → Vs ⊕ (Int × Int)
  | 0, m => .inl m
  | k + 1, m => match leastS m.wt with
    | none => .inl m
    | some j => match lookS ty cd ⟨m.rs, m.wt.set j false, m.dp⟩ j with
      | .inr e => .inr e
      | .inl m' => runS ty cd k m'
def blankS (n : Nat) : Vs := ⟨List.replicate n none, List.replicate n false, 0⟩
def startS (n : Nat) : Vs := ⟨(List.replicate n none).set 0 (some []), (List.replicate n false).set 0 true, 0⟩
def walkP (x : Img) : Vs ⊕ (Int × Int) := if (chkP x).2 = 0 then runS x.ty x.cd x.cd.length (startS x.cd.length) else .inr (chkP x)
def errP (x : Img) : Int × Int := match walkP x with | .inl _ => (0, 0) | .inr e => e
def deepP (x : Img) : Int × Int := match walkP x with | .inl m => ((m.dp : Int), 0) | .inr e => (0, e.2)
def rchL (m : Vs) : List Bool := m.rs.map Option.isSome
def rchP (x : Img) : List Bool × Int := match walkP x with | .inl m => (rchL m, 0) | .inr e => ([], e.2)
/-! how many rounds there are left -/
def cnt (l : List Bool) : Nat := l.foldr (fun b k => (if b then 1 else 0) + k) 0
def blk (l : List (Option Stk)) : Nat := l.foldr (fun b k => (if b.isSome then 0 else 1) + k) 0
def muS (m : Vs) : Nat := blk m.rs + cnt m.wt
theorem cnt_set : ∀ (l : List Bool) (k : Nat), l[k]? = some true → cnt (l.set k false) + 1 = cnt l
  | [], k, h => by cases h
  | b :: r, 0, h => by
    obtain rfl := Option.some.inj h
    show 0 + cnt r + 1 = 1 + cnt r
    omega
  | b :: r, k + 1, h => by
    have := cnt_set r k h
    show (if b then 1 else 0) + cnt (r.set k false) + 1 = (if b then 1 else 0) + cnt r
    omega
theorem cnt_put : ∀ (l : List Bool) (k : Nat), cnt (l.set k true) ≤ cnt l + 1
  | [], k => by simp [cnt]
  | b :: r, 0 => by
    show 1 + cnt r ≤ (if b then 1 else 0) + cnt r + 1
    omega
  | b :: r, k + 1 => by
    have := cnt_put r k
    show (if b then 1 else 0) + cnt (r.set k true) ≤ (if b then 1 else 0) + cnt r + 1
    omega
theorem blk_set : ∀ (l : List (Option Stk)) (k : Nat) (s : Stk), l[k]? = some none → blk (l.set k (some s)) + 1 = blk l
  | [], k, s, h => by cases h
  | b :: r, 0, s, h => by
    obtain rfl := Option.some.inj h
    show 0 + blk r + 1 = 1 + blk r
    omega
  | b :: r, k + 1, s, h => by
    have := blk_set r k s h
    show (if b.isSome then 0 else 1) + blk (r.set k (some s)) + 1 = (if b.isSome then 0 else 1) + blk r
    omega
theorem least_get : ∀ (l : List Bool) (k : Nat), leastS l = some k → l[k]? = some true ∧ ∀ j, j < k → l[j]? = some false
  | [], k, h => by cases h
  | true :: r, k, h => by
    obtain rfl := Option.some.inj h
    exact ⟨rfl, fun j hj => absurd hj (Nat.not_lt_zero _)⟩
  | false :: r, k, h => by
    obtain ⟨j, hj, rfl⟩ := Option.map_eq_some_iff.1 h
    obtain ⟨h1, h2⟩ := least_get r j hj
    refine ⟨h1, fun i hi => ?_⟩
    cases i with
    | zero => rfl
    | succ i => exact h2 i (by omega)
theorem least_none : ∀ (l : List Bool), leastS l = none → ∀ j, l.getD j false = false
  | [], _, j => rfl
  | true :: r, h, j => by cases h
  | false :: r, h, j => by
    have h' : leastS r = none := by
      cases hr : leastS r with
      | none => rfl
      | some k => simp only [leastS, hr, Option.map_some] at h; cases h
    cases j with
    | zero => rfl
    | succ j => exact least_none r h' j
theorem least_of : ∀ (l : List Bool) (k : Nat), l[k]? = some true → (∀ j, j < k → l[j]? = some false) → leastS l = some k
  | [], k, h, _ => by cases h
  | b :: r, 0, h, _ => by obtain rfl := Option.some.inj h; rfl
  | b :: r, k + 1, h, h0 => by
    obtain rfl := Option.some.inj (h0 0 (by omega))
    show (leastS r).map (· + 1) = _
    rw [least_of r k h (fun j hj => h0 (j + 1) (by omega))]; rfl
theorem least_of_none : ∀ (l : List Bool), (∀ j, j < l.length → l[j]? = some false) → leastS l = none
  | [], _ => rfl
  | b :: r, h => by
    obtain rfl := Option.some.inj (h 0 (by simp))
    show (leastS r).map (· + 1) = _
    rw [least_of_none r (fun j hj => h (j + 1) (by simp; omega))]; rfl
/-- the shape that a walk keeps: as many places as there are instructions; what waits was reached; a stack is of types, and of 64 at most -/
structure GoodS (n : Nat) (m : Vs) : Prop where
  rs : m.rs.length = n
  wt : m.wt.length = n
  wait : ∀ k, m.wt.getD k false = true → (m.at k).isSome = true
  ok : ∀ k s, m.at k = some s → s.length ≤ 64 ∧ ∀ t ∈ s, 1 ≤ t ∧ t ≤ 4
theorem getD_set {α : Type} (l : List α) (k j : Nat) (a d : α) : (l.set k a).getD j d = if k = j ∧ j < l.length then a else l.getD j d := by
  rw [List.getD_eq_getElem?_getD, List.getD_eq_getElem?_getD, List.getElem?_set]
  by_cases h : k = j
  · subst h
    by_cases hk : k < l.length
    · simp [hk]
    · simp [hk]
  · simp [h]
theorem start_good (n : Nat) : GoodS n (startS n) := by
  refine ⟨by simp [startS], by simp [startS], fun k h => ?_, fun k s h => ?_⟩
  · simp only [startS, Vs.at] at h ⊢
    rw [getD_set] at h ⊢
    by_cases hk : 0 = k ∧ k < n
    · rw [if_pos (by simpa using hk)]; rfl
    · rw [if_neg (by simpa using hk)] at h
      rw [List.getD_eq_getElem?_getD, List.getElem?_replicate] at h
      split at h <;> simp at h
  · simp only [startS, Vs.at] at h
    rw [getD_set] at h
    split at h
    · obtain rfl := Option.some.inj h; simp
    · rw [List.getD_eq_getElem?_getD, List.getElem?_replicate] at h
      split at h <;> simp at h
theorem reach_good {n k : Nat} {m m' : Vs} {s : Stk} (h : GoodS n m) (hs : s.length ≤ 64 ∧ ∀ t ∈ s, 1 ≤ t ∧ t ≤ 4) (hk : k < n) (hr : reachS m k s = some m') : GoodS n m' ∧ muS m' ≤ muS m ∧ m'.dp = m.dp := by
  unfold reachS at hr
  cases ha : m.at k with
  | some s' =>
    rw [ha] at hr
    dsimp only at hr
    split at hr
    · obtain rfl := Option.some.inj hr; exact ⟨h, Nat.le_refl _, rfl⟩
    · cases hr
  | none =>
    rw [ha] at hr
    obtain rfl := Option.some.inj hr
    have hg : m.rs[k]? = some none := by
      unfold Vs.at at ha
      rw [List.getD_eq_getElem?_getD, List.getElem?_eq_getElem (by rw [h.rs]; exact hk)] at ha
      rw [List.getElem?_eq_getElem (by rw [h.rs]; exact hk)]
      exact congrArg some ha
    refine ⟨⟨by simp [h.rs], by simp [h.wt], fun j hj => ?_, fun j t ht => ?_⟩, ?_, rfl⟩
    · simp only [Vs.at] at hj ⊢
      rw [getD_set] at hj ⊢
      by_cases hc : k = j
      · rw [if_pos ⟨hc, by rw [h.rs]; omega⟩]; rfl
      · rw [if_neg (fun e => hc e.1)] at hj ⊢
        exact h.wait j hj
    · simp only [Vs.at] at ht
      rw [getD_set] at ht
      split at ht
      · obtain rfl := Option.some.inj ht; exact hs
      · exact h.ok j t ht
    · have h1 := blk_set m.rs k s hg
      have h2 := cnt_put m.wt k
      show blk (m.rs.set k (some s)) + cnt (m.wt.set k true) ≤ blk m.rs + cnt m.wt
      omega
/-- where an instruction goes on, it goes on at a place or behind the last one -/
theorem goes_le {ty : List Int} {n k : Nat} {i : Ins} (hi : mayI ty n i = true) (hk : k < n) : ∀ j ∈ goesS k i, j ≤ n := fun j hj => by
  have hA : i.op = 9 ∨ i.op = 10 → inB i.a n = true := fun h => by
    unfold mayI rightB at hi
    simp only [Bool.and_eq_true] at hi
    have h2 := hi.2.2
    rw [if_neg (by omega), if_neg (by omega), if_neg (by omega), if_neg (by omega), if_neg (by omega), if_neg (by omega), if_pos h] at h2
    exact h2
  have hB : i.op = 9 ∨ i.op = 10 → i.a.toNat < n := fun h => by
    have := hA h
    unfold inB at this
    simp only [Bool.and_eq_true, decide_eq_true_eq] at this
    omega
  unfold goesS at hj
  split at hj
  · cases hj
  · split at hj
    · rename_i h _; have := hB (by omega); simp at hj; omega
    · split at hj
      · have := hB (by omega); simp at hj; omega
      · simp at hj; omega
theorem follow_good {n k : Nat} {s : Stk} (hs : s.length ≤ 64 ∧ ∀ t ∈ s, 1 ≤ t ∧ t ≤ 4) : ∀ (l : List Nat) (m m' : Vs), (∀ j ∈ l, j ≤ n) → GoodS n m → followS n k s l m = .inl m' → GoodS n m' ∧ muS m' ≤ muS m ∧ m'.dp = m.dp
  | [], m, m', _, h, hf => by obtain rfl := Sum.inl.inj hf; exact ⟨h, Nat.le_refl _, rfl⟩
  | j :: r, m, m', hl, h, hf => by
    unfold followS at hf
    have hj := hl j (by simp)
    split at hf
    · cases hf
    · cases hr : reachS m j s with
      | none => rw [hr] at hf; cases hf
      | some m1 =>
        rw [hr] at hf
        obtain ⟨g1, u1, d1⟩ := reach_good h hs (by omega) hr
        obtain ⟨g2, u2, d2⟩ := follow_good hs r m1 m' (fun i hi => hl i (by simp [hi])) g1 hf
        exact ⟨g2, by omega, d2.trans d1⟩
theorem take_ok {ts : List Int} {s t : Stk} (h : takeS ts s = some t) (hs : s.length ≤ 64 ∧ ∀ t ∈ s, 1 ≤ t ∧ t ≤ 4) : (t.length ≤ 64 ∧ ∀ u ∈ t, 1 ≤ u ∧ u ≤ 4) ∧ t.length + 1 = s.length := by
  unfold takeS at h
  cases hl : s.getLast? with
  | none => rw [hl] at h; cases h
  | some u =>
    rw [hl] at h
    dsimp only at h
    split at h
    · obtain rfl := Option.some.inj h
      have hne : s ≠ [] := fun e => by rw [e] at hl; cases hl
      have : 0 < s.length := List.length_pos_iff.2 hne
      exact ⟨⟨by simp; omega, fun u hu => hs.2 u (List.dropLast_subset _ hu)⟩, by simp; omega⟩
    · cases h
theorem leave_ok {a : Int} {s t : Stk} (h : leaveS a s = some t) (ha : 1 ≤ a ∧ a ≤ 4) (hs : s.length ≤ 64 ∧ ∀ t ∈ s, 1 ≤ t ∧ t ≤ 4) : t.length ≤ 64 ∧ ∀ u ∈ t, 1 ≤ u ∧ u ≤ 4 := by
  unfold leaveS at h
  split at h
  · cases h
  · obtain rfl := Option.some.inj h
    refine ⟨by simp; omega, fun u hu => ?_⟩
    rcases List.mem_append.1 hu with hu | hu
    · exact hs.2 u hu
    · obtain rfl := List.mem_singleton.1 hu; exact ha
end Go.Proofs.YtlckedionmgjjaaDoor
namespace Go.Proofs.YtlckedionmgjjaaDoor
open Go.RowKit
/-- a block that is known whole -/
def Ob (w : World) (g : Nat) (T : TypeId) (cs : List Value) : Prop := w.heap[g]? = some (.cells cs.toArray T (0, 0))
theorem Ob.cell {w : World} {g : Nat} {T : TypeId} {cs : List Value} (h : Ob w g T cs) (k : Nat) {v : Value} (hv : cs[k]? = some v) : w.cell? ⟨g, k, none⟩ = some v := by rw [Lib.cell_of_heap h]; simpa using hv
theorem Ob.fr {w : World} {g : Nat} {T : TypeId} {cs : List Value} (h : Ob w g T cs) (k : Nat) : w.frozen? ⟨g, k, none⟩ = false := Lib.frozen_of_heap h k
theorem Ob.set {w : World} {g : Nat} {T : TypeId} {cs : List Value} (h : Ob w g T cs) (k : Nat) (v : Value) : Ob (w.setCell ⟨g, k, none⟩ v) g T (cs.set k v) := by
  unfold Ob
  rw [Lib.heap_setCell_same h v]
  simp
theorem Ob.on {w w' : World} {g B : Nat} {T : TypeId} {cs : List Value} (h : Ob w g T cs) (hb : Below B w w') (hB : g < B) : Ob w' g T cs := (hb.block g hB).trans h
theorem Ob.lt {w : World} {g : Nat} {T : TypeId} {cs : List Value} (h : Ob w g T cs) : g < w.heap.size := (Array.getElem?_eq_some_iff.1 h).1
theorem Ob.new (w : World) (T : TypeId) (cs : List Value) : Ob (w.alloc (.cells cs.toArray T)) w.heap.size T cs := heap_alloc_new _ _
abbrev But (R : Nat) (w w' : World) : Prop := w.grownBy w' (some R)
theorem But.trans {R : Nat} {w w1 w2 : World} (h : But R w w1) (k : But R w1 w2) : But R w w2 :=
  ⟨k.os.trans h.os, k.tape.trans h.tape, k.output.trans h.output, Nat.le_trans h.size k.size, fun i hi hn => (k.block i (Nat.lt_of_lt_of_le hi h.size) hn).trans (h.block i hi hn)⟩
theorem But.of_below {R : Nat} {w w' : World} (h : Below w.heap.size w w') : But R w w' := ⟨h.os, h.tape, h.output, h.size, fun k hk _ => h.block k hk⟩
theorem But.refl (R : Nat) (w : World) : But R w w := But.of_below (Below.refl _ _)
theorem But.alloc {R : Nat} {w w' : World} (h : But R w w') (o : Obj) : But R w (w'.alloc o) := h.trans (But.of_below ((Below.refl _ _).alloc (Nat.le_refl _) _))
theorem But.drew {R : Nat} {w w' : World} (h : But R w w') : But R w w'.drew := ⟨h.os, h.tape, h.output, h.size, h.block⟩
theorem But.drewN {R : Nat} {w w' : World} (h : But R w w') (n : Nat) : But R w (w'.drewN n) := ⟨h.os, h.tape, h.output, h.size, h.block⟩
theorem But.cell {R : Nat} {w w' : World} (h : But R w w') {p : Addr} (hp : p.block < w.heap.size) (hn : p.block ≠ R) : w'.cell? p = w.cell? p := World.cell?_of_block (h.block p.block hp (fun e => hn (Option.some.inj e)))
theorem But.ob {R : Nat} {w w' : World} (h : But R w w') {g : Nat} {T : TypeId} {cs : List Value} (hg : Ob w g T cs) (hn : g ≠ R) : Ob w' g T cs :=
  (h.block g (Array.getElem?_eq_some_iff.1 hg).1 (fun e => hn (Option.some.inj e))).trans hg
theorem But.set {R : Nat} {w w' : World} (h : But R w w') (k : Nat) (v : Value) : But R w (w'.setCell ⟨R, k, none⟩ v) := by
  have hs : (w'.setCell ⟨R, k, none⟩ v).heap.size = w'.heap.size := by simp
  exact ⟨h.os, h.tape, h.output, by rw [hs]; exact h.size, fun i hi hn => by rw [Below.heap_setCell _ _ _ _ (by show i ≠ R; exact fun e => hn (by rw [e]))]; exact h.block i hi hn⟩
theorem But.below {R : Nat} {w w' : World} (h : But R w w') (hR : R ≤ w.heap.size) : Below R w w' := ⟨h.os, h.tape, h.output, h.size, fun k hk => h.block k (by omega) (fun e => by have := Option.some.inj e; omega)⟩
theorem belowSet {B b : Nat} {w w' : World} (h : Below B w w') (hb : B ≤ b) (k : Nat) (v : Value) : Below B w (w'.setCell ⟨b, k, none⟩ v) := h.setCell hb v
/-- a stack's cells -/
def encS (s : Stk) : List Value := ((List.range 64).map fun i => Value.int .u8 (s.getD i 0)) ++ [.int .i64 (s.length : Int)]
theorem encS_length (s : Stk) : (encS s).length = 65 := by simp [encS]
theorem encS_get (s : Stk) (i : Nat) (h : i < 64) : (encS s)[i]? = some (.int .u8 (s.getD i 0)) := by
  unfold encS
  rw [List.getElem?_append_left (by simpa using h), List.getElem?_map, List.getElem?_range h]; rfl
theorem encS_top (s : Stk) : (encS s)[64]? = some (.int .i64 (s.length : Int)) := by
  unfold encS
  rw [List.getElem?_append_right (by simp)]; simp
theorem encS_ext {l : List Value} {s : Stk} (hl : l.length = 65) (h : ∀ i, i < 64 → l[i]? = some (.int .u8 (s.getD i 0))) (h64 : l[64]? = some (.int .i64 (s.length : Int))) : l = encS s := by
  refine List.ext_getElem? fun i => ?_
  rcases Nat.lt_trichotomy i 64 with hi | rfl | hi
  · rw [h i hi, encS_get s i hi]
  · rw [h64, encS_top]
  · rw [List.getElem?_eq_none (by omega), List.getElem?_eq_none (by rw [encS_length]; omega)]
theorem encS_one (s : Stk) : ∀ u ∈ encS s, u.oneCell' = true := fun u hu => by
  unfold encS at hu
  rcases List.mem_append.1 hu with hu | hu
  · obtain ⟨i, _, rfl⟩ := List.mem_map.1 hu; rfl
  · obtain rfl := List.mem_singleton.1 hu; rfl
theorem encS_leave (s : Stk) (t : Int) (h : s.length < 64) : ((encS s).set s.length (.int .u8 t)).set 64 (.int .i64 ((s.length : Int) + 1)) = encS (s ++ [t]) := by
  refine encS_ext (by simp [encS_length]) (fun i hi => ?_) ?_
  · rw [List.getElem?_set, if_neg (by omega), List.getElem?_set]
    by_cases e : s.length = i
    · rw [if_pos e, if_pos (by rw [encS_length]; omega), List.getD_eq_getElem?_getD, ← e]; simp
    · rw [if_neg e, encS_get s i hi, List.getD_eq_getElem?_getD, List.getD_eq_getElem?_getD, List.getElem?_append]
      by_cases hlt : i < s.length
      · rw [if_pos hlt]
      · rw [if_neg hlt, List.getElem?_eq_none (by omega : s.length ≤ i), List.getElem?_eq_none (by simp; omega)]
  · rw [List.getElem?_set, if_pos rfl, if_pos (by simp [encS_length])]; simp
theorem encS_take (s : Stk) (h : s ≠ []) (h64 : s.length ≤ 64) : ((encS s).set 64 (.int .i64 ((s.length : Int) - 1))).set (s.length - 1) (.int .u8 0) = encS s.dropLast := by
  have h0 : 0 < s.length := List.length_pos_iff.2 h
  refine encS_ext (by simp [encS_length]) (fun i hi => ?_) ?_
  · rw [List.getElem?_set]
    by_cases e : s.length - 1 = i
    · rw [if_pos e, if_pos (by simp [encS_length]; omega), List.getD_eq_getElem?_getD, List.getElem?_eq_none (by simp; omega)]; rfl
    · rw [if_neg e, List.getElem?_set, if_neg (by omega), encS_get s i hi, List.getD_eq_getElem?_getD, List.getD_eq_getElem?_getD, List.getElem?_dropLast]
      by_cases hlt : i < s.length - 1
      · rw [if_pos hlt]
      · rw [if_neg hlt, List.getElem?_eq_none (by omega : s.length ≤ i)]
  · rw [List.getElem?_set, if_neg (by omega), List.getElem?_set, if_pos rfl, if_pos (by simp [encS_length])]
    simp only [List.length_dropLast]
    congr 2; omega
/-- the walk's post of a stack's method -/
theorem top_get {s : Stk} {t : Int} (h : s.getLast? = some t) : 0 < s.length ∧ s.getD (s.length - 1) 0 = t := by
  rw [List.getLast?_eq_getElem?] at h
  have hl := (List.getElem?_eq_some_iff.1 h).1
  exact ⟨by omega, by rw [List.getD_eq_getElem?_getD, h]; rfl⟩
set_option maxRecDepth 100000 in
set_option maxHeartbeats 1600000 in
theorem leave_any (b : Nat) (t : Int) (s : Stk) (w : World) (hS : Ob w b 76 (encS s)) (hs : s.length ≤ 64) (ht : 1 ≤ t ∧ t ≤ 4) :
    Calls Tryd.prog 77 #[.pointer (some ⟨b, 0, none⟩), .int .i64 t] w fun e w' => e = .returned (.bool (leaveS t s).isSome) ∧ Ob w' b 76 (encS ((leaveS t s).getD s)) ∧ But b w w' := by
  have c64 : w.cell? ⟨b, 64, none⟩ = some (.int .i64 (s.length : Int)) := hS.cell 64 (encS_top s)
  by_cases hf : s.length = 64
  · have hL : Hid (leaveS t s = none) := by show _ = _; unfold leaveS; rw [if_pos hf]
    rw [hL.out]
    have HS := hide hS
    have j1 : (s.length : Int) = 64 := by omega
    rw [j1] at c64
    clear hS hL hs hf j1
    go_enter Tryd.func77, Tryd.ntmps77
    go_wp2
    go_ret
    exact ⟨rfl, HS.out, But.refl _ _⟩
  · have hL : Hid (leaveS t s = some (s ++ [t])) := by show _ = _; unfold leaveS; rw [if_neg hf]
    rw [hL.out]
    have HS := hide hS
    have HE := hide (encS_leave s t (by omega))
    have cn : ∃ v, w.cell? ⟨b, s.length, none⟩ = some v := ⟨_, hS.cell s.length (encS_get s s.length (by omega))⟩
    obtain ⟨v0, cn⟩ := cn
    have f0 := hS.fr s.length
    have f1 := hS.fr 64
    obtain ⟨n, hn⟩ : ∃ n, n = s.length := ⟨_, rfl⟩
    rw [← hn] at HE c64 cn f0 hf hs
    have n1 : (n : Int) < 64 := by omega
    have n0 : (0 : Int) ≤ (n : Int) := by omega
    have n2 : ¬ (n : Int) = 64 := by omega
    have t0 := ht.1
    have t1 := ht.2
    clear hS hL hf hn ht
    go_enter Tryd.func77, Tryd.ntmps77
    have tb : IntKind.u8.wrap t = t := by unfold IntKind.wrap; simp [IntKind.bits, IntKind.signed]; omega
    go_wp2
    go_region
    have c65 : (w.setCell ⟨b, n, none⟩ (.int .u8 t)).cell? ⟨b, 64, none⟩ = some (.int .i64 (n : Int)) := (World.cell?_setCell_other _ _ _ _ (fun h => n2 (by injection h with _ h; omega))).trans c64
    go_wp2
    go_ret
    refine ⟨rfl, ?_, (((But.refl b w).set n _).set 64 _).drew⟩
    have := (HS.out.set n (.int .u8 t)).set 64 (.int .i64 ((n : Int) + 1))
    rw [HE.out] at this
    exact this
set_option maxRecDepth 100000 in
set_option maxHeartbeats 1600000 in
theorem stake_any (b : Nat) (v : Value) (ts : List Int) (s : Stk) (w : World) (hS : Ob w b 76 (encS s)) (hv : ILst w v ts) (hs : s.length ≤ 64) (ht : ∀ t ∈ s, 1 ≤ t ∧ t ≤ 4) (hn0 : 0 < ts.length) (hn : ts.length ≤ 4) :
    Calls Tryd.prog 78 #[.pointer (some ⟨b, 0, none⟩), v] w fun e w' => e = .returned (.bool (takeS ts s).isSome) ∧ Ob w' b 76 (encS ((takeS ts s).getD s)) ∧ But b w w' := by
  have c64 : w.cell? ⟨b, 64, none⟩ = some (.int .i64 (s.length : Int)) := hS.cell 64 (encS_top s)
  obtain ⟨va, vb, voff, vcap, rfl, hvA, hvI⟩ := hv
  obtain ⟨hvb, rfl⟩ := hvA hn0
  cases hl : s.getLast? with
  | none =>
    have hL : Hid (takeS ts s = none) := by show _ = _; unfold takeS; rw [hl]
    have h0 : s = [] := List.getLast?_eq_none_iff.1 hl
    rw [hL.out]
    have HS := hide hS
    have j1 : (s.length : Int) = 0 := by rw [h0]; rfl
    rw [j1] at c64
    clear hS hL hs ht hvI hl j1 h0
    go_enter Tryd.func78, Tryd.ntmps78
    go_wp2
    go_ret
    exact ⟨rfl, HS.out, But.refl _ _⟩
  | some t =>
    obtain ⟨h0, hg⟩ := top_get hl
    have hL : Hid (takeS ts s = if ts.contains t then some s.dropLast else none) := by show _ = _; unfold takeS; rw [hl]
    have hne : s ≠ [] := fun e => by rw [e] at h0; exact absurd h0 (by simp)
    have HS := hide hS
    have HE := hide (encS_take s hne hs)
    have c63 : w.cell? ⟨b, s.length - 1, none⟩ = some (.int .u8 t) := by rw [← hg]; exact hS.cell _ (encS_get s _ (by omega))
    have f0 := hS.fr (s.length - 1)
    have f1 := hS.fr 64
    have hm : t ∈ s := List.mem_of_getLast? hl
    have t0 := (ht t hm).1
    have t1 := (ht t hm).2
    obtain ⟨n, hn'⟩ : ∃ n, s.length = n + 1 := ⟨s.length - 1, by omega⟩
    rw [hn'] at HE c64 c63 f0 hs
    simp only [Nat.add_sub_cancel] at HE c63 f0
    have n1 : (n : Int) < 64 := by omega
    have n0 : (0 : Int) ≤ (n : Int) := by omega
    have c64 : w.cell? ⟨b, 64, none⟩ = some (.int .i64 ((n : Int) + 1)) := c64
    have HT := hide hL.out
    obtain ⟨R, hR⟩ : ∃ R, R = takeS ts s := ⟨_, rfl⟩
    rw [← hR] at HT ⊢
    have HVI := hide hvI
    obtain ⟨m, hm'⟩ : ∃ m, m = ts.length := ⟨_, rfl⟩
    rw [← hm'] at hn ⊢
    have HM := hide hm'
    have m0 : (0 : Int) ≤ (m : Int) := by omega
    have m1 : (m : Int) ≤ 4 := by omega
    clear hS hL hs ht hvI hl h0 hg hne hm hn' hR hm'
    go_enter Tryd.func78, Tryd.ntmps78
    go_wp2
    go_loopw [4, 6, 14] (fun r _ i wr => ∃ k : Nat, k ≤ m ∧ i = .int .i64 (k : Int) ∧ r = .bool false ∧ Hid ((∀ j, j < k → ts[j]? ≠ some t) ∧ ∃ d, wr = w.drewN d)) (fun _ _ i _ => m - (intOf i).toNat)
    case atStart => exact ⟨0, by omega, rfl, rfl, fun j hj => absurd hj (by omega), 0, rfl⟩
    case round =>
      obtain ⟨k, hk, rfl, rfl, hh⟩ := hrel
      obtain ⟨hno, d, rfl⟩ := hh.out
      have HNO := hide hno
      clear hh hno
      have k0 : (0 : Int) ≤ (k : Int) := by omega
      by_cases hlt : k < m
      · have j1 : (k : Int) < (m : Int) := by omega
        obtain ⟨x, hx⟩ : ∃ x, ts[k]? = some x := ⟨_, List.getElem?_eq_getElem (by rw [← HM.out]; exact hlt)⟩
        have cx := HVI.out k x hx
        by_cases he : t = x
        · subst he
          have tb : IntKind.i64.wrap t = t := by unfold IntKind.wrap; simp [IntKind.bits, IntKind.signed]; omega
          have HD : Hid (R = some s.dropLast) := by
            show _ = _
            rw [HT.out, if_pos (by rw [List.contains_iff_mem]; exact List.mem_of_getElem? hx)]
          clear HT hx HNO
          go_wp2
          go_quiet (fail)
          go_wp2
          go_region
          go_wp2
          go_ret
          rw [HD.out]
          refine ⟨rfl, ?_, ?_⟩
          · have := (HS.out.set 64 (.int .i64 ((n : Int) + 1 - 1))).set n (.int .u8 0)
            rw [show ((n : Int) + 1 - 1) = ((n + 1 : Nat) : Int) - 1 by omega] at this
            rw [HE.out] at this
            rw [show (((n + 1 : Nat) : Int) - 1) = (n : Int) by omega] at this
            exact this
          · exact ((((But.refl b w).drewN _).set 64 _).set n _).drew
        · have he' : (t == x) = false := by simpa using he
          have HNX : Hid (∀ j, j < k + 1 → ts[j]? ≠ some t) := fun j hj => by
            by_cases e : j = k
            · rw [e, hx]; exact fun h => he (Option.some.inj h).symm
            · exact HNO.out j (by omega)
          clear hx HNO
          go_wp2
          go_quiet (fail)
          go_wp2
          go_roundw
          case rel => exact ⟨k + 1, by omega, by go_num, rfl, HNX.out, _, rfl⟩
          case measure => simp [intOf]; omega
      · obtain rfl : k = m := by omega
        have HD : Hid (R = none) := by
          show _ = _
          rw [HT.out, if_neg]
          rw [List.contains_iff_mem, List.mem_iff_getElem?]
          rintro ⟨j, hj⟩
          exact HNO.out j (by rw [HM.out]; exact (List.getElem?_eq_some_iff.1 hj).1) hj
        clear HT HNO
        go_wp2
        go_ret
        rw [HD.out]
        exact ⟨rfl, HS.out, (But.refl b w).drewN _⟩
end Go.Proofs.YtlckedionmgjjaaDoor
namespace Go.Proofs.YtlckedionmgjjaaDoor.Four
open Go.RowKit
set_option maxRecDepth 100000 in
theorem fitsR_any (t n : Int) (w : World) : Calls Tryd.prog 38 #[.int .i64 t, .int .i64 n] w fun e w' => e = .returned (.bool (fitB t n)) ∧ w' = w := by
  by_cases h1 : t = 1
  · subst h1
    have E := hide (show fitB 1 n = (decide (n = 0) || decide (n = 1)) by unfold fitB; rw [if_pos rfl])
    go_enter Tryd.func38, Tryd.ntmps38
    go_wp2
    all_goals
      go_ret
      refine ⟨ret_bool ?_, rfl⟩
      rw [E.out]
      clear E
      rw [Bool.eq_iff_iff]
      simp [*]
  · have E := hide (show fitB t n = (tyB t && (decide (-(szN t / 2) ≤ n) && decide (n < szN t / 2))) by unfold fitB; rw [if_neg h1])
    have c := type_any t
    have d := size_any t
    have hs := sz_pos t
    generalize szN t = m at *
    cases hT : tyB t with
    | false =>
      rw [hT] at c E
      clear hT d hs
      go_enter Tryd.func38, Tryd.ntmps38
      go_wp2_with fail
      refine (c _).mono ?_
      rintro e w1 ⟨rfl, rfl⟩
      go_wp2
      go_ret
      exact ⟨ret_bool (by rw [E.out]; rfl), rfl⟩
    | true =>
      rw [hT, Bool.true_and] at E
      rw [hT] at c
      clear hT
      rcases hs with rfl | rfl
      all_goals
        go_enter Tryd.func38, Tryd.ntmps38
        go_wp2_with fail
        refine (c _).mono ?_
        rintro e w1 ⟨rfl, rfl⟩
        go_wp2_with fail
        refine (d _).mono ?_
        rintro e w1 ⟨rfl, rfl⟩
        go_wp2_with fail
        · refine (d _).mono ?_
          rintro e w1 ⟨rfl, rfl⟩
          go_wp2
          all_goals
            go_ret
            refine ⟨ret_bool ?_, rfl⟩
            rw [E.out]
            simp
            omega
        all_goals
          go_ret
          refine ⟨ret_bool ?_, rfl⟩
          rw [E.out]
          simp
          omega
/-- which types an operation's row is for: the bit 1 << t -/
def bitT (s t : Int) : Bool := tyB t && (s / 2 ^ t.toNat % 2 == 1)
set_option maxRecDepth 100000 in
theorem has_any (s t : Int) (hs : s = 28 ∨ s = 12 ∨ s = 14 ∨ s = 30 ∨ s = 0) (w : World) : Calls Tryd.prog 102 #[.int .u8 s, .int .i64 t] w fun e w' => e = .returned (.bool (bitT s t)) ∧ w' = w := by
  have c := isType_any t
  cases hT : tyB t with
  | false =>
    have E := hide (show bitT s t = false by unfold bitT; rw [hT]; rfl)
    rw [hT] at c
    clear hT
    go_enter Tryd.func102, Tryd.ntmps102
    go_wp2_with fail
    refine (c _).mono ?_
    rintro e w1 ⟨rfl, rfl⟩
    go_wp2
    go_ret
    exact ⟨ret_bool (by rw [E.out]), rfl⟩
  | true =>
    have ht : t = 1 ∨ t = 2 ∨ t = 3 ∨ t = 4 := by
      unfold tyB at hT
      rw [Bool.and_eq_true] at hT
      have h1 := of_decide_eq_true hT.1
      have h2 := of_decide_eq_true hT.2
      omega
    rw [hT] at c
    clear hT
    rcases ht with rfl | rfl | rfl | rfl <;> rcases hs with rfl | rfl | rfl | rfl | rfl
    all_goals
      go_enter Tryd.func102, Tryd.ntmps102
      go_wp2_with fail
      refine (c _).mono ?_
      rintro e w1 ⟨rfl, rfl⟩
      go_wp2
      go_ret
      exact ⟨ret_bool (by decide +kernel), rfl⟩
end Go.Proofs.YtlckedionmgjjaaDoor.Four
