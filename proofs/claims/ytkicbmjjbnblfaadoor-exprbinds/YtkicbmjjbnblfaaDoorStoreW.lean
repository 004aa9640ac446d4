/- A token stored whole, as a step of a statement whose order is left open. -/
import Derived.Test.YtkicbmjjbnblfaaDoorTypeR
namespace Go.Proofs.YtkicbmjjbnblfaaDoor
open Go.RowKit
theorem below_setCells (B g : Nat) (hg : B ≤ g) : ∀ (vs : List Value) (o : Nat) (w : World), Below B w (w.setCells g o vs)
  | [], _, w => Below.refl _ _
  | v :: r, o, w => by
    rw [World.setCells]
    exact (((Below.refl B w).setCell (p := ⟨g, o, none⟩) hg v)).trans (below_setCells B g hg r (o + 1) _)
/-- what is held of the worlds of such a statement: the row's cell that is read, the result's block, the table of spans -/
def SI (w : World) (g : Nat) (W : World) : Prop := W.there g 0 5 ∧ TabAt W 5 spanTab ∧ Below w.heap.size w W
theorem SI.drew {w : World} {g : Nat} {W : World} (h : SI w g W) : SI w g W.drew := ⟨(World.there_drew W g 0 5).2 h.1, h.2.1, h.2.2.drew⟩
theorem size44 : (Tryd.prog.info? 44).map (·.size) = some 5 := by kernel_rfl
/-- the result's cells, behind the store -/
def Five (g : Nat) (c0 c1 c2 c3 c4 : Value) (W : World) : Prop := W.cell? ⟨g, 0, none⟩ = some c0 ∧ W.cell? ⟨g, 1, none⟩ = some c1 ∧ W.cell? ⟨g, 2, none⟩ = some c2 ∧ W.cell? ⟨g, 3, none⟩ = some c3 ∧ W.cell? ⟨g, 4, none⟩ = some c4
theorem stored {w W : World} {g : Nat} (hS : SI w g W) (h5 : 5 < w.heap.size) (hg : w.heap.size ≤ g) (c0 c1 c2 c3 c4 : Value) : Five g c0 c1 c2 c3 c4 (W.setCells g 0 [c0, c1, c2, c3, c4]) ∧ SI w g (W.setCells g 0 [c0, c1, c2, c3, c4]) ∧ ∀ p : Addr, p.block ≠ g → (W.setCells g 0 [c0, c1, c2, c3, c4]).cell? p = W.cell? p := by
  have hin := World.cell?_setCells_in g [c0, c1, c2, c3, c4] 0 W (fun j hj => (hS.1 j hj).1)
  have hout : ∀ p : Addr, p.block ≠ g → (W.setCells g 0 [c0, c1, c2, c3, c4]).cell? p = W.cell? p := fun p hp => World.cell?_setCells_out g _ 0 W p (fun e => absurd e hp)
  refine ⟨⟨hin 0 (by simp), hin 1 (by simp), hin 2 (by simp), hin 3 (by simp), hin 4 (by simp)⟩, ⟨World.there_setCells hS.1 g 0 _, fun k v e => ?_, hS.2.2.trans (below_setCells _ g hg _ 0 W)⟩, hout⟩
  exact (hout ⟨5, k, none⟩ (by show 5 ≠ g; omega)).trans (hS.2.1 k v e)
theorem step_store5 {ops : Array Oper} {a : Act} {W w : World} {K : Act → World → Prop} {Q : Exit → Act → World → Prop} {E : Prop} {dst : Option Tmp} {ty' : TypeId} {x y : Operand} {pos : String} {after : Array Edge} {g : Nat} {c0 c1 c2 c3 c4 : Value}
    (hS : SI w g W) (h5 : 5 < w.heap.size) (hg : w.heap.size ≤ g) (hx : a.eval x = .pointer (some ⟨g, 0, none⟩)) (hy : a.eval y = .agg #[c0, c1, c2, c3, c4]) (h1 : (#[c0, c1, c2, c3, c4] : Array Value).all (·.oneCell') = true)
    (h : ∀ W', Five g c0 c1 c2 c3 c4 W' → SI w g W' → (∀ p : Addr, p.block ≠ g → W'.cell? p = W.cell? p) → K (a.put dst undef) W') :
    if Region.wanted { dst := dst, op := .store 44 x y, type := ty', pos := pos, after := after, guard := none } (yielded ops a.tmps) = true then Oper.wp Tryd.prog { dst := dst, op := .store 44 x y, type := ty', pos := pos, after := after, guard := none } a W K Q else E := by
  rw [if_pos (by simp [Region.wanted])]
  unfold Oper.wp execOp
  simp only [hx, hy, Instr.storeAt, Instr.sureAddr, Sem.run_bind, Sem.run_pure, Result.andThen_ok, run_storeVar_mid (P := Tryd.prog) W g 0 44 #[c0, c1, c2, c3, c4] hS.1 size44 h1]
  obtain ⟨s1, s2, s3⟩ := stored hS h5 hg c0 c1 c2 c3 c4
  exact h _ s1 s2 s3
theorem there5 {w W : World} (h : Below (w.heap.size + 1) (w.alloc (.cells #[.int .i64 0, .string ⟨#[]⟩, .int .i64 0, .int .i64 0, .int .i64 0] 44)) W) : W.there w.heap.size 0 5 := fun j hj => by
  rw [Nat.zero_add, h.cell (p := ⟨w.heap.size, j, none⟩) (by simp), h.frozen (p := ⟨w.heap.size, j, none⟩) (by simp)]
  have : j = 0 ∨ j = 1 ∨ j = 2 ∨ j = 3 ∨ j = 4 := by omega
  rcases this with rfl | rfl | rfl | rfl | rfl <;> simp
end Go.Proofs.YtkicbmjjbnblfaaDoor
