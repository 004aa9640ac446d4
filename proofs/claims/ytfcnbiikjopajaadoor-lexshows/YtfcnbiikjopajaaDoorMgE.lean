/- What the two readers of a typed number's value answer, in one form. | A token stored whole, as a step of a statement whose order is left open. -/
import Derived.Test.YtfcnbiikjopajaaDoorMgD
import Derived.Test.YtfcnbiikjopajaaDoorTimeW
import Derived.Test.YtfcnbiikjopajaaDoorMgC
namespace Go.Proofs.YtfcnbiikjopajaaDoor
open Go.RowKit
/-- a value that was read, and what it is as a token of a type -/
def RVs (ty : Int) (l : Bs) (o : Option (Tk × Bs)) (n z : Int) (b : Bool) : Prop :=
  (b = true ∧ fitB ty n = true ∧ ∃ r, o = some (numT n ty, r) ∧ z = ((l.length - r.length : Nat) : Int)) ∨ ((b && fitB ty n) = false ∧ o = none)
theorem typedN_val {ty : Int} (ht : ty = 1 ∨ ty = 2 ∨ ty = 3) (l : Bs) : ∃ n z b, valOut l = .tuple #[.int .i64 n, .int .i64 z, .bool b] ∧ RVs ty l (typedN ty l) n z b ∧ (-4294967296 ≤ n ∧ n ≤ 4294967296) ∧ 0 ≤ z ∧ z ≤ (l.length : Int) := by
  by_cases hm : l.head? = some 45
  · obtain ⟨q, rfl⟩ : ∃ q, l = 45 :: q := by
      match l, hm with
      | c :: q, hm => injection hm with hm; exact ⟨q, by rw [hm]⟩
    have hv : valOut (45 :: q) = .tuple #[.int .i64 (-((pd 10 false 0 q).1 : Int)), .int .i64 ((1 + (q.length - (pd 10 false 0 q).2.length) : Nat) : Int), .bool (okP 10 q)] := by
      unfold valOut
      rw [if_pos hm]
      simp only [List.tail_cons]
    have hle := (pd_ge (base := 10) (by omega) q false 0 (by omega)).2
    refine ⟨_, _, _, hv, ?_, by omega, by omega, by simp; omega⟩
    unfold typedN
    rw [if_pos hm]
    simp only [List.tail_cons]
    rw [digs_num (by omega) (by omega) (by omega) (by omega)]
    unfold RVs
    rw [fit_L ht]
    by_cases hb : okP 10 q = true
    · by_cases hf : fitL ty (-((pd 10 false 0 q).1 : Int)) = true
      · have hr := fit_range5 hf
        rw [if_pos ⟨hb, by omega⟩]
        simp only [hf, if_true]
        left
        refine ⟨hb, trivial, _, rfl, ?_⟩
        have := pd_len 10 q false 0
        rw [List.length_cons]
        omega
      · right
        refine ⟨by rw [hb]; simpa using hf, ?_⟩
        split <;> simp_all
    · right
      refine ⟨by simp [hb], ?_⟩
      rw [if_neg (fun h => hb h.1)]
  · have hv : valOut l = .tuple #[.int .i64 ((pd 10 false 0 l).1 : Int), .int .i64 ((l.length - (pd 10 false 0 l).2.length : Nat) : Int), .bool (okP 10 l)] := by
      unfold valOut
      rw [if_neg hm]
      rfl
    have hle := (pd_ge (base := 10) (by omega) l false 0 (by omega)).2
    refine ⟨_, _, _, hv, ?_, by omega, by omega, by omega⟩
    unfold typedN
    rw [if_neg hm]
    rw [digs_num (by omega) (by omega) (by omega) (by omega)]
    unfold RVs
    rw [fit_L ht]
    by_cases hb : okP 10 l = true
    · by_cases hf : fitL ty ((pd 10 false 0 l).1 : Int) = true
      · have hr := fit_range5 hf
        rw [if_pos ⟨hb, by omega⟩]
        simp only [hf, if_true]
        left
        exact ⟨hb, trivial, _, rfl, rfl⟩
      · right
        refine ⟨by rw [hb]; simpa using hf, ?_⟩
        split <;> simp_all
    · right
      refine ⟨by simp [hb], ?_⟩
      rw [if_neg (fun h => hb h.1)]
theorem typedT_val (l : Bs) {v : Value} (h : TvOut l (timeP 6 0 0 l) v) : ∃ n z b, v = .tuple #[.int .i64 n, .int .i64 z, .bool b] ∧ RVs 4 l ((timeL 6 0 0 l).map fun x => (numT x.1 4, x.2)) n z b := by
  rw [time_pd 6 0 0 l (by omega)]
  unfold TvOut at h
  cases ht : timeP 6 0 0 l with
  | none =>
    rw [ht] at h
    obtain ⟨n, k, rfl⟩ := h
    exact ⟨n, k, false, rfl, .inr ⟨rfl, rfl⟩⟩
  | some x =>
    obtain ⟨m, r⟩ := x
    rw [ht] at h
    refine ⟨_, _, _, h, ?_⟩
    unfold RVs
    rw [fit_T]
    by_cases hm : m < 2147483648
    · left
      simp only [if_pos hm]
      exact ⟨trivial, decide_eq_true hm, r, rfl, rfl⟩
    · right
      simp only [if_neg hm]
      exact ⟨by rw [decide_eq_false hm]; rfl, rfl⟩
def tyNames : List Bs := [[66, 79, 79, 76], [73, 78, 84], [68, 73, 78, 84], [84], [84, 73, 77, 69]]
def tyNos : List Int := [1, 2, 3, 4, 4]
theorem ty_tab (k : Nat) (h : k < 5) : tyTab.toArray.extract (k * 2) (k * 2 + 2) = #[.string ⟨(tyNames[k]'h).toArray⟩, .int .i64 (tyNos[k]'h)] := by
  have : k = 0 ∨ k = 1 ∨ k = 2 ∨ k = 3 ∨ k = 4 := by omega
  rcases this with rfl | rfl | rfl | rfl | rfl <;> rfl
theorem ty_at (k : Nat) (h : k < 5) (l : Bs) : typedL (tyNames[k]'h) l = if tyNos[k]'h = 4 then (timeL 6 0 0 l).map fun x => (numT x.1 4, x.2) else typedN (tyNos[k]'h) l := by
  have : k = 0 ∨ k = 1 ∨ k = 2 ∨ k = 3 ∨ k = 4 := by omega
  rcases this with rfl | rfl | rfl | rfl | rfl <;> simp [typedL, tyNames, tyNos]
theorem ty_no (k : Nat) (h : k < 5) : (tyNos[k]'h) = 4 ∨ (tyNos[k]'h) = 1 ∨ (tyNos[k]'h) = 2 ∨ (tyNos[k]'h) = 3 := by
  have : k = 0 ∨ k = 1 ∨ k = 2 ∨ k = 3 ∨ k = 4 := by omega
  rcases this with rfl | rfl | rfl | rfl | rfl <;> simp [tyNos]
theorem ty_none {name : Bs} (h : name ∉ tyNames) (l : Bs) : typedL name l = none := by
  simp only [tyNames, List.mem_cons, List.not_mem_nil, or_false, not_or] at h
  obtain ⟨h1, h2, h3, h4, h5⟩ := h
  unfold typedL
  rw [if_neg (by rintro (e | e) <;> contradiction), if_neg h1, if_neg h2, if_neg h3]
end Go.Proofs.YtfcnbiikjopajaaDoor
namespace Go.Proofs.YtfcnbiikjopajaaDoor
open Go.RowKit
theorem below_setCells (B g : Nat) (hg : B ≤ g) : ∀ (vs : List Value) (o : Nat) (w : World), Below B w (w.setCells g o vs)
  | [], _, w => Below.refl _ _
  | v :: r, o, w => by
    rw [World.setCells]
    exact (((Below.refl B w).setCell (p := ⟨g, o, none⟩) hg v)).trans (below_setCells B g hg r (o + 1) _)
/-- what is held of the worlds of such a statement: the row's cell that is read, the result's block, the table of spans -/
def SI (w : World) (g : Nat) (W : World) : Prop := W.there g 0 5 ∧ TabAt W 5 spanTab ∧ Below w.heap.size w W
theorem SI.drew {w : World} {g : Nat} {W : World} (h : SI w g W) : SI w g W.drew := ⟨(World.there_drew W g 0 5).2 h.1, h.2.1, h.2.2.drew⟩
theorem size41 : (Tryd.prog.info? 41).map (·.size) = some 5 := by kernel_rfl
/-- the result's cells, behind the store -/
def Five (g : Nat) (c0 c1 c2 c3 c4 : Value) (W : World) : Prop := W.cell? ⟨g, 0, none⟩ = some c0 ∧ W.cell? ⟨g, 1, none⟩ = some c1 ∧ W.cell? ⟨g, 2, none⟩ = some c2 ∧ W.cell? ⟨g, 3, none⟩ = some c3 ∧ W.cell? ⟨g, 4, none⟩ = some c4
theorem stored {w W : World} {g : Nat} (hS : SI w g W) (h5 : 5 < w.heap.size) (hg : w.heap.size ≤ g) (c0 c1 c2 c3 c4 : Value) : Five g c0 c1 c2 c3 c4 (W.setCells g 0 [c0, c1, c2, c3, c4]) ∧ SI w g (W.setCells g 0 [c0, c1, c2, c3, c4]) ∧ ∀ p : Addr, p.block ≠ g → (W.setCells g 0 [c0, c1, c2, c3, c4]).cell? p = W.cell? p := by
  have hin := World.cell?_setCells_in g [c0, c1, c2, c3, c4] 0 W (fun j hj => (hS.1 j hj).1)
  have hout : ∀ p : Addr, p.block ≠ g → (W.setCells g 0 [c0, c1, c2, c3, c4]).cell? p = W.cell? p := fun p hp => World.cell?_setCells_out g _ 0 W p (fun e => absurd e hp)
  refine ⟨⟨hin 0 (by simp), hin 1 (by simp), hin 2 (by simp), hin 3 (by simp), hin 4 (by simp)⟩, ⟨World.there_setCells hS.1 g 0 _, fun k v e => ?_, hS.2.2.trans (below_setCells _ g hg _ 0 W)⟩, hout⟩
  exact (hout ⟨5, k, none⟩ (by show 5 ≠ g; omega)).trans (hS.2.1 k v e)
theorem step_store5 {ops : Array Oper} {a : Act} {W w : World} {K : Act → World → Prop} {Q : Exit → Act → World → Prop} {E : Prop} {dst : Option Tmp} {ty' : TypeId} {x y : Operand} {pos : String} {after : Array Edge} {g : Nat} {c0 c1 c2 c3 c4 : Value}
    (hS : SI w g W) (h5 : 5 < w.heap.size) (hg : w.heap.size ≤ g) (hx : a.eval x = .pointer (some ⟨g, 0, none⟩)) (hy : a.eval y = .agg #[c0, c1, c2, c3, c4]) (h1 : (#[c0, c1, c2, c3, c4] : Array Value).all (·.oneCell') = true)
    (h : ∀ W', Five g c0 c1 c2 c3 c4 W' → SI w g W' → (∀ p : Addr, p.block ≠ g → W'.cell? p = W.cell? p) → K (a.put dst undef) W') :
    if Region.wanted { dst := dst, op := .store 41 x y, type := ty', pos := pos, after := after, guard := none } (yielded ops a.tmps) = true then Oper.wp Tryd.prog { dst := dst, op := .store 41 x y, type := ty', pos := pos, after := after, guard := none } a W K Q else E := by
  rw [if_pos (by simp [Region.wanted])]
  unfold Oper.wp execOp
  simp only [hx, hy, Instr.storeAt, Instr.sureAddr, Sem.run_bind, Sem.run_pure, Result.andThen_ok, run_storeVar_mid (P := Tryd.prog) W g 0 41 #[c0, c1, c2, c3, c4] hS.1 size41 h1]
  obtain ⟨s1, s2, s3⟩ := stored hS h5 hg c0 c1 c2 c3 c4
  exact h _ s1 s2 s3
theorem there5 {w W : World} (h : Below (w.heap.size + 1) (w.alloc (.cells #[.int .i64 0, .string ⟨#[]⟩, .int .i64 0, .int .i64 0, .int .i64 0] 41)) W) : W.there w.heap.size 0 5 := fun j hj => by
  rw [Nat.zero_add, h.cell (p := ⟨w.heap.size, j, none⟩) (by simp), h.frozen (p := ⟨w.heap.size, j, none⟩) (by simp)]
  have : j = 0 ∨ j = 1 ∨ j = 2 ∨ j = 3 ∨ j = 4 := by omega
  rcases this with rfl | rfl | rfl | rfl | rfl <;> simp
end Go.Proofs.YtfcnbiikjopajaaDoor
