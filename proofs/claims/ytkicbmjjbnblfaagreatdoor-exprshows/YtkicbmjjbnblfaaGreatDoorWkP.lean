/- Texts read whole, plain; how operations bind, by all their texts. -/
import Derived.Test.YtkicbmjjbnblfaaGreatDoorRpA
namespace Go.Proofs.YtkicbmjjbnblfaaGreatDoor
/-- the parts of a short text that is one expression, whole -/
def readP (l : Bs) : Option (List Pt) := match toks l with
  | .error _ => none
  | .ok ts => if (0 < ts.length ∧ ts.length ≤ 1000) ∧ ts.all (fun t => decide (t.1.s.length ≤ 1000)) = true then
      (match parse (ts.map (·.1)) with
       | .error _ => none
       | .ok (x, r) => if r.length = 1 then some x else none)
    else none
def ptB (p q : Pt) : Bool := decide (p.kind = q.kind) && decide (p.s = q.s) && decide (p.f = q.f) && decide (p.n = q.n) && decide (p.t = q.t)
theorem ptB_iff (p q : Pt) : ptB p q = true ↔ p = q := by
  obtain ⟨a, b, c, d, e⟩ := p
  obtain ⟨a', b', c', d', e'⟩ := q
  unfold ptB
  simp only [Bool.and_eq_true, decide_eq_true_eq, Pt.mk.injEq]
  constructor
  · rintro ⟨⟨⟨⟨h1, h2⟩, h3⟩, h4⟩, h5⟩; exact ⟨h1, h2, h3, h4, h5⟩
  · rintro ⟨h1, h2, h3, h4, h5⟩; exact ⟨⟨⟨⟨h1, h2⟩, h3⟩, h4⟩, h5⟩
def ptsB : List Pt → List Pt → Bool
  | [], [] => true
  | p :: x, q :: y => ptB p q && ptsB x y
  | _, _ => false
theorem ptsB_iff : ∀ x y : List Pt, ptsB x y = true ↔ x = y
  | [], [] => by simp [ptsB]
  | [], q :: y => by simp [ptsB]
  | p :: x, [] => by simp [ptsB]
  | p :: x, q :: y => by
    unfold ptsB
    rw [Bool.and_eq_true, ptB_iff, ptsB_iff x y]
    simp
def t1 : Bs := [97, 32, 43, 32, 98, 32, 42, 32, 50, 32, 60, 32, 55]
def x1 : List Pt := [varP [65], varP [66], numP 2 0, opP 3, opP 1, numP 7 0, opP 11]
def t2 : Bs := [110, 111, 116, 32, 97, 91, 105, 32, 43, 32, 49, 93, 32, 97, 110, 100, 32, 116, 46, 113]
def x2 : List Pt := [varP [73], numP 1 0, opP 1, idxP [65], opP 16, fldP [84] [81], opP 6]
set_option maxRecDepth 100000 in
theorem read1 : readP t1 = some x1 := by kernel_rfl
set_option maxRecDepth 100000 in
theorem read2 : readP t2 = some x2 := by kernel_rfl
def wds : List Bs := [[79, 82], [88, 79, 82], [65, 78, 68], [38], [61], [60, 62], [60], [60, 61], [62], [62, 61], [43], [45], [42], [47], [77, 79, 68]]
def rws : List Nat := [0, 1, 2, 2, 3, 3, 4, 4, 4, 4, 5, 5, 6, 6, 6]
def bX (a b : Bs) : Bs := [112, 32] ++ a ++ [32, 113, 32] ++ b ++ [32, 114]
def bL (a b : Bs) : Bs := [40, 112, 32] ++ a ++ [32, 113, 41, 32] ++ b ++ [32, 114]
def bR (a b : Bs) : Bs := [112, 32] ++ a ++ [32, 40, 113, 32] ++ b ++ [32, 114, 41]
def bindOk (a b : Bs) (up : Bool) : Bool := match readP (bX a b), readP (bL a b), readP (bR a b) with
  | some x, some l, some r => !ptsB l r && (if up then ptsB x r else ptsB x l)
  | _, _, _ => false
set_option maxRecDepth 100000 in
theorem binds_all : (wds.zip rws).all (fun i => (wds.zip rws).all fun k => bindOk i.1 k.1 (decide (i.2 < k.2))) = true := by kernel_rfl
end Go.Proofs.YtkicbmjjbnblfaaGreatDoor
