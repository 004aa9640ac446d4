/- code: what imageOf has while it reads. -/
import Derived.Test.YtmbgcpmapaedcaaGreatDoorMg24
namespace Go.Proofs.YtmbgcpmapaedcaaGreatDoor
open Go.RowKit
open Wi (It itA ItsAt)
structure ImJ (w : World) (B X : Nat) (xs : ByteArray) (tv fv iv ov cv : Value) (tl fl : List Int) (rest : List It) (W : World) : Prop where
  below : Below w.heap.size w W
  res : W.heap[w.heap.size]? = some (.cells #[.string ⟨#[]⟩, .slice none 0 0, .slice none 0 0, .slice none 0 0, .slice none 0 0, .slice none 0 0] 26 (0, 0))
  rd : Rd B W (w.heap.size + 1) rest
  x : W.heap[X]? = some (.cells #[.string xs, tv, fv, iv, ov, cv] 26 (0, 0))
  ty : W.ownsRow (X + 1) 3 1 tv tl.length (intC tl)
  fi : W.ownsRow (X + 1) 2 1 fv fl.length (intC fl)
  apart : ∀ r, tv.ownBlock = some r → fv.ownBlock ≠ some r
  hB : B = w.heap.size + 2
  hX : B ≤ X
theorem ImJ.ltX {w W : World} {B X : Nat} {xs : ByteArray} {tv fv iv ov cv : Value} {tl fl : List Int} {rest : List It} (h : ImJ w B X xs tv fv iv ov cv tl fl rest W) : X < W.heap.size := (Array.getElem?_eq_some_iff.1 h.x).1
theorem ImJ.drew {w W : World} {B X : Nat} {xs : ByteArray} {tv fv iv ov cv : Value} {tl fl : List Int} {rest : List It} (h : ImJ w B X xs tv fv iv ov cv tl fl rest W) : ImJ w B X xs tv fv iv ov cv tl fl rest W.drew :=
  ⟨h.below.drew, h.res, h.rd, h.x, h.ty, h.fi, h.apart, h.hB, h.hX⟩
/-- the reader went on -/
theorem ImJ.next {w W W' : World} {B X : Nat} {xs : ByteArray} {tv fv iv ov cv : Value} {tl fl : List Int} {rest rest' : List It} (h : ImJ w B X xs tv fv iv ov cv tl fl rest W) (hb : But (w.heap.size + 1) W W') (hr : Rd B W' (w.heap.size + 1) rest') : ImJ w B X xs tv fv iv ov cv tl fl rest' W' := by
  have hX := h.hX
  have hB := h.hB
  have hl := h.ltX
  refine ⟨h.below.trans ⟨hb.os, hb.tape, hb.output, hb.size, fun k hk => hb.block k (by have := h.below.size; omega) (fun e => by have : k = w.heap.size + 1 := Option.some.inj e; omega)⟩, (hb.block _ (by omega) (fun e => by have : w.heap.size = w.heap.size + 1 := Option.some.inj e; omega)).trans h.res, hr, (hb.block _ hl (fun e => by have : X = w.heap.size + 1 := Option.some.inj e; omega)).trans h.x, ?_, ?_, h.apart, hB, hX⟩
  · exact h.ty.kept hb (.inr fun e => by have := (h.ty.lt _ e).1; omega)
  · exact h.fi.kept hb (.inr fun e => by have := (h.fi.lt _ e).1; omega)
/-- a type is put behind -/
theorem ImJ.tyApp {w W w3 : World} {B X gg cap : Nat} {A : Obj} {xs : ByteArray} {tv fv iv ov cv : Value} {tl fl : List Int} {rest : List It} {n : Int} (h : ImJ w B X xs tv fv iv ov cv tl fl rest W)
    (ho : w3.ownsRow (X + 1) 3 1 (.slice (some ⟨gg, 0, none⟩) (tl.length + 1) cap) (tl.length + 1) (intC tl ++ [.int .i64 n])) (hg : (W.alloc A).grownBy w3 tv.ownBlock) (hat : tv.ownBlock = some gg ∨ gg = W.heap.size + 1) :
    ImJ w B X xs (.slice (some ⟨gg, 0, none⟩) (tl.length + 1) cap) fv iv ov cv (tl ++ [n]) fl rest (w3.setCell ⟨X, 1, none⟩ (.slice (some ⟨gg, 0, none⟩) (tl.length + 1) cap)) := by
  have hX := h.hX
  have hB := h.hB
  have hl := h.ltX
  have hob : ∀ r, tv.ownBlock = some r → X + 1 ≤ r ∧ r < W.heap.size := fun r hr => h.ty.lt r hr
  have hS : W.heap.size + 1 ≤ w3.heap.size := by have := hg.size; simpa using this
  have hgg : X + 1 ≤ gg := by rcases hat with e | e; exact (hob gg e).1; omega
  have b3 : Below (X + 1) W w3 := ((Below.refl (X + 1) W).alloc (by omega) A).grown hg (by simp; omega) (fun r hr => (hob r hr).1)
  have hx3 : w3.heap[X]? = some (.cells #[.string xs, tv, fv, iv, ov, cv] 26 (0, 0)) := (b3.block X (by omega)).trans h.x
  have hfn : fv.ownBlock = none ∨ fv.ownBlock ≠ tv.ownBlock := by
    cases e : fv.ownBlock with
    | none => exact .inl rfl
    | some r => exact .inr fun e2 => h.apart r e2.symm e
  have b4 : Below X w3 (w3.setCell ⟨X, 1, none⟩ (.slice (some ⟨gg, 0, none⟩) (tl.length + 1) cap)) := (Below.refl X w3).setCell (by simp) _
  refine ⟨(h.below.trans (b3.mono (by omega))).trans (b4.mono (by omega)), ?_, ?_, (Lib.heap_setCell_same hx3 _).trans rfl, ?_, ?_, ?_, hB, hX⟩
  · exact (b4.block _ (by omega)).trans ((b3.block _ (by omega)).trans h.res)
  · exact (h.rd.on (b3.mono (by omega))).on (b4.mono hX)
  · rw [intC_append, List.length_append]
    exact Wi.owns_set ho X 1 (by omega) _
  · have k1 := (h.fi.alloc A).kept hg hfn
    exact Wi.owns_set k1 X 1 (by omega) _
  · intro r hr e
    have : gg = r := Option.some.inj hr
    subst this
    rcases hat with e1 | e1
    · exact h.apart _ e1 e
    · have := (h.fi.lt _ e).2; omega
theorem ImJ.fiApp {w W w3 : World} {B X gg cap : Nat} {A : Obj} {xs : ByteArray} {tv fv iv ov cv : Value} {tl fl : List Int} {rest : List It} {n : Int} (h : ImJ w B X xs tv fv iv ov cv tl fl rest W)
    (ho : w3.ownsRow (X + 1) 2 1 (.slice (some ⟨gg, 0, none⟩) (fl.length + 1) cap) (fl.length + 1) (intC fl ++ [.int .i64 n])) (hg : (W.alloc A).grownBy w3 fv.ownBlock) (hat : fv.ownBlock = some gg ∨ gg = W.heap.size + 1) :
    ImJ w B X xs tv (.slice (some ⟨gg, 0, none⟩) (fl.length + 1) cap) iv ov cv tl (fl ++ [n]) rest (w3.setCell ⟨X, 2, none⟩ (.slice (some ⟨gg, 0, none⟩) (fl.length + 1) cap)) := by
  have hX := h.hX
  have hB := h.hB
  have hl := h.ltX
  have hob : ∀ r, fv.ownBlock = some r → X + 1 ≤ r ∧ r < W.heap.size := fun r hr => h.fi.lt r hr
  have hS : W.heap.size + 1 ≤ w3.heap.size := by have := hg.size; simpa using this
  have hgg : X + 1 ≤ gg := by rcases hat with e | e; exact (hob gg e).1; omega
  have b3 : Below (X + 1) W w3 := ((Below.refl (X + 1) W).alloc (by omega) A).grown hg (by simp; omega) (fun r hr => (hob r hr).1)
  have hx3 : w3.heap[X]? = some (.cells #[.string xs, tv, fv, iv, ov, cv] 26 (0, 0)) := (b3.block X (by omega)).trans h.x
  have hfn : tv.ownBlock = none ∨ tv.ownBlock ≠ fv.ownBlock := by
    cases e : tv.ownBlock with
    | none => exact .inl rfl
    | some r => exact .inr fun e2 => h.apart r e e2.symm
  have b4 : Below X w3 (w3.setCell ⟨X, 2, none⟩ (.slice (some ⟨gg, 0, none⟩) (fl.length + 1) cap)) := (Below.refl X w3).setCell (by simp) _
  refine ⟨(h.below.trans (b3.mono (by omega))).trans (b4.mono (by omega)), ?_, ?_, (Lib.heap_setCell_same hx3 _).trans rfl, ?_, ?_, ?_, hB, hX⟩
  · exact (b4.block _ (by omega)).trans ((b3.block _ (by omega)).trans h.res)
  · exact (h.rd.on (b3.mono (by omega))).on (b4.mono hX)
  · have k1 := (h.ty.alloc A).kept hg hfn
    exact Wi.owns_set k1 X 2 (by omega) _
  · rw [intC_append, List.length_append]
    exact Wi.owns_set ho X 2 (by omega) _
  · intro r hr e
    have : gg = r := Option.some.inj e
    subst this
    rcases hat with e1 | e1
    · exact h.apart _ hr e1
    · have := (h.ty.lt _ hr).2; omega
theorem ImJ.on {w W W' : World} {B X : Nat} {xs : ByteArray} {tv fv iv ov cv : Value} {tl fl : List Int} {rest : List It} (h : ImJ w B X xs tv fv iv ov cv tl fl rest W) (hb : Below W.heap.size W W') : ImJ w B X xs tv fv iv ov cv tl fl rest W' := by
  have hl := h.ltX
  have hX := h.hX
  have hB := h.hB
  exact ⟨h.below.trans (hb.mono h.below.size), (hb.block _ (by omega)).trans h.res, h.rd.on (hb.mono h.rd.2.1), (hb.block _ hl).trans h.x, owns_below h.ty hb, owns_below h.fi hb, h.apart, hB, hX⟩
theorem ImJ.set {w W : World} {B X : Nat} {xs : ByteArray} {tv fv iv ov cv : Value} {tl fl : List Int} {rest : List It} (h : ImJ w B X xs tv fv iv ov cv tl fl rest W) (j : Nat) (v : Value) (iv' ov' cv' : Value) (hx : (#[Value.string xs, tv, fv, iv, ov, cv] : Array Value).setIfInBounds j v = #[.string xs, tv, fv, iv', ov', cv']) :
    ImJ w B X xs tv fv iv' ov' cv' tl fl rest (W.setCell ⟨X, j, none⟩ v) := by
  have hl := h.ltX
  have hX := h.hX
  have hB := h.hB
  have b4 : Below X W (W.setCell ⟨X, j, none⟩ v) := (Below.refl X W).setCell (by simp) _
  exact ⟨h.below.trans (b4.mono (by omega)), (b4.block _ (by omega)).trans h.res, h.rd.on (b4.mono hX), (Lib.heap_setCell_same h.x _).trans (by rw [hx]), Wi.owns_set h.ty X j (by omega) _, Wi.owns_set h.fi X j (by omega) _, h.apart, hB, hX⟩
theorem ILst.of_ownsE {w : World} {base e : Nat} {v : Value} {l : List Int} (h : w.ownsRow base e 1 v l.length (intC l)) : ILst w v l := by
  rcases h.2 with ⟨hv, h0⟩ | ⟨g, cap, cur, hv, hb, hg, hn, hm, hc, ht⟩
  · obtain rfl := List.eq_nil_of_length_eq_zero h0
    subst hv
    exact ILst.nil w 0
  · subst hv
    refine ⟨_, g, 0, cap, rfl, fun _ => ⟨(Array.getElem?_eq_some_iff.1 hg).1, rfl⟩, fun i x hx => ?_⟩
    have hi : i < l.length := (List.getElem?_eq_some_iff.1 hx).1
    rw [Nat.zero_add, h.cellAt i (by omega), intC_get, hx]; rfl
/-- six cells of a block written -/
def set6 (W : World) (Z : Nat) (a b c d e f : Value) : World := (((((W.setCell ⟨Z, 0, none⟩ a).setCell ⟨Z, 1, none⟩ b).setCell ⟨Z, 2, none⟩ c).setCell ⟨Z, 3, none⟩ d).setCell ⟨Z, 4, none⟩ e).setCell ⟨Z, 5, none⟩ f
theorem owns6 {W : World} {Z base ty s n : Nat} {v a b c d e f : Value} {xs : List Value} (h : W.ownsRow base ty s v n xs) (hZ : Z < base) : (set6 W Z a b c d e f).ownsRow base ty s v n xs :=
  Wi.owns_set (Wi.owns_set (Wi.owns_set (Wi.owns_set (Wi.owns_set (Wi.owns_set h Z 0 hZ a) Z 1 hZ b) Z 2 hZ c) Z 3 hZ d) Z 4 hZ e) Z 5 hZ f
theorem below6 {w W : World} {B Z : Nat} {a b c d e f : Value} (h : Below B w W) (hZ : B ≤ Z) : Below B w (set6 W Z a b c d e f) :=
  (((((h.setCell hZ a).setCell hZ b).setCell hZ c).setCell hZ d).setCell hZ e).setCell hZ f
theorem heap6 {W : World} {Z ty : Nat} {a0 a1 a2 a3 a4 a5 a b c d e f : Value} (h : W.heap[Z]? = some (.cells #[a0, a1, a2, a3, a4, a5] ty (0, 0))) : (set6 W Z a b c d e f).heap[Z]? = some (.cells #[a, b, c, d, e, f] ty (0, 0)) :=
  (Lib.heap_setCell_same (Lib.heap_setCell_same (Lib.heap_setCell_same (Lib.heap_setCell_same (Lib.heap_setCell_same (Lib.heap_setCell_same h _) _) _) _) _) _).trans rfl
theorem owns_agree {W W2 : World} {base e s n B : Nat} {v : Value} {xs : List Value} (h : W.ownsRow base e s v n xs) (hB : B ≤ base) (ha : ∀ k, B ≤ k → k < W.heap.size → W2.heap[k]? = W.heap[k]?) : W2.ownsRow base e s v n xs := by
  refine ⟨h.1, ?_⟩
  rcases h.2 with h0 | ⟨g, cap, cur, hv, hg, hh, r⟩
  · exact .inl h0
  · exact .inr ⟨g, cap, cur, hv, hg, (ha g (by omega) (Array.getElem?_eq_some_iff.1 hh).1).trans hh, r⟩
/-- an image whose lists lie from a block on -/
def ImF (B : Nat) (w : World) (nm tv fv iv ov cv : Value) (x : Img) : Prop := ∀ W, (∀ k, B ≤ k → k < w.heap.size → W.heap[k]? = w.heap[k]?) → Im W nm tv fv iv ov cv x
theorem ImF.im {B : Nat} {w : World} {nm tv fv iv ov cv : Value} {x : Img} (h : ImF B w nm tv fv iv ov cv x) : Im w nm tv fv iv ov cv x := h w (fun _ _ _ => rfl)
theorem ImF.on {B : Nat} {w w' : World} {nm tv fv iv ov cv : Value} {x : Img} (h : ImF B w nm tv fv iv ov cv x) (hb : Below w.heap.size w w') : ImF B w' nm tv fv iv ov cv x := fun W hW =>
  h W fun k h1 h2 => (hW k h1 (Nat.lt_of_lt_of_le h2 hb.size)).trans (hb.block k h2)
theorem ImF.set6 {B Z : Nat} {w : World} {nm tv fv iv ov cv a b c d e f : Value} {x : Img} (h : ImF B w nm tv fv iv ov cv x) (hZ : Z < B) : ImF B (set6 w Z a b c d e f) nm tv fv iv ov cv x := fun W hW =>
  h W fun k h1 h2 => (hW k h1 (by unfold Go.Proofs.YtmbgcpmapaedcaaGreatDoor.set6; simpa using h2)).trans (by
    unfold Go.Proofs.YtmbgcpmapaedcaaGreatDoor.set6
    have hk : k ≠ Z := by omega
    rw [heap_setCell_other _ _ _ _ hk, heap_setCell_other _ _ _ _ hk, heap_setCell_other _ _ _ _ hk, heap_setCell_other _ _ _ _ hk, heap_setCell_other _ _ _ _ hk, heap_setCell_other _ _ _ _ hk])
theorem ImF.drop {B B' : Nat} {w : World} {nm tv fv iv ov cv : Value} {x : Img} (h : ImF B w nm tv fv iv ov cv x) (hB : B' ≤ B) : ImF B' w nm tv fv iv ov cv x := fun W hW => h W fun k h1 h2 => hW k (Nat.le_trans hB h1) h2
theorem ImF.set {B Z j : Nat} {w : World} {nm tv fv iv ov cv v : Value} {x : Img} (h : ImF B w nm tv fv iv ov cv x) (hZ : Z < B) : ImF B (w.setCell ⟨Z, j, none⟩ v) nm tv fv iv ov cv x := fun W hW =>
  h W fun k h1 h2 => (hW k h1 (by simpa using h2)).trans (heap_setCell_other _ _ _ _ (by show k ≠ Z; omega))
end Go.Proofs.YtmbgcpmapaedcaaGreatDoor
