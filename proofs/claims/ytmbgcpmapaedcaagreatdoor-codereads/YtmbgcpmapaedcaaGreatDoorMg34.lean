/- What the document's Decode has while it reads. | The document's same. | The document's Fields. -/
import Derived.Test.YtmbgcpmapaedcaaGreatDoorMg33
import Derived.Test.YtmbgcpmapaedcaaGreatDoorMg8
import Derived.Deep.QuietTactic
import Derived.BigQuiet
import Derived.Test.YtmbgcpmapaedcaaGreatDoorMg1
namespace Go.Proofs.YtmbgcpmapaedcaaGreatDoor
open Go.RowKit
open Wi (It itA ItsAt)
theorem rows_apart {w : World} {base base' e e' s s' n n' : Nat} {v v' : Value} {xs xs' : List Value} (h : w.ownsRow base e s v n xs) (h' : w.ownsRow base' e' s' v' n' xs') (he : e ≠ e') : v.ownBlock = none ∨ v.ownBlock ≠ v'.ownBlock := by
  rcases h.2 with ⟨hv, h0⟩ | ⟨g, cap, cur, hv, hb, hg, hn, hm, hc, ht⟩
  · subst hv; exact .inl rfl
  · subst hv
    right
    rcases h'.2 with ⟨hv', h0'⟩ | ⟨g', cap', cur', hv', hb', hg', hn', hm', hc', ht'⟩
    · subst hv'; intro x; cases x
    · subst hv'
      intro x
      have hx : g = g' := Option.some.inj x
      subst hx
      rw [hg] at hg'
      have := Option.some.inj hg'
      injection this with _ h2
      exact he h2
structure DJ (w : World) (R B X lb loff : Nat) (l : List It) (xs : ByteArray) (tv fv iv ov cv : Value) (tl fl il ol : List Int) (cl : List Ins) (s : Rs) (W : World) : Prop where
  below : Below w.heap.size w W
  res : W.heap[w.heap.size]? = some (.cells #[.string ⟨#[]⟩, .slice none 0 0, .slice none 0 0, .slice none 0 0, .slice none 0 0, .slice none 0 0] 26 (0, 0))
  rd : RDr B W R l s
  x : W.heap[X]? = some (.cells #[.string xs, tv, fv, iv, ov, cv] 26 (0, 0))
  ty : W.ownsRow (X + 1) 3 1 tv tl.length (intC tl)
  fi : W.ownsRow (X + 1) 2 1 fv fl.length (intC fl)
  ins : W.ownsRow (X + 1) 3 1 iv il.length (intC il)
  outs : W.ownsRow (X + 1) 3 1 ov ol.length (intC ol)
  cd : W.ownsRow (X + 1) 41 4 cv cl.length (inC cl)
  its : ItsAt W lb loff l
  hlb : 0 < l.length → lb < B
  hlR : lb ≠ R
  hR : w.heap.size < R
  hX : B ≤ X
section
variable {w W W' : World} {R B X lb loff : Nat} {l : List It} {xs : ByteArray} {tv fv iv ov cv : Value} {tl fl il ol : List Int} {cl : List Ins} {s s' : Rs}
theorem DJ.ltX (h : DJ w R B X lb loff l xs tv fv iv ov cv tl fl il ol cl s W) : X < W.heap.size := (Array.getElem?_eq_some_iff.1 h.x).1
theorem DJ.drew (h : DJ w R B X lb loff l xs tv fv iv ov cv tl fl il ol cl s W) : DJ w R B X lb loff l xs tv fv iv ov cv tl fl il ol cl s W.drew :=
  ⟨h.below.drew, h.res, h.rd, h.x, h.ty, h.fi, h.ins, h.outs, h.cd, h.its, h.hlb, h.hlR, h.hR, h.hX⟩
theorem DJ.cell (h : DJ w R B X lb loff l xs tv fv iv ov cv tl fl il ol cl s W) (j : Nat) : W.cell? ⟨X, j, none⟩ = (#[.string xs, tv, fv, iv, ov, cv] : Array Value)[j]? := Lib.cell_of_heap h.x j
theorem DJ.fro (h : DJ w R B X lb loff l xs tv fv iv ov cv tl fl il ol cl s W) (j : Nat) : W.frozen? ⟨X, j, none⟩ = false := Lib.frozen_of_heap h.x j
/-- the reader went on -/
theorem DJ.next (h : DJ w R B X lb loff l xs tv fv iv ov cv tl fl il ol cl s W) (hb : But R W W') (hr : RDr B W' R l s') : DJ w R B X lb loff l xs tv fv iv ov cv tl fl il ol cl s' W' := by
  have hX := h.hX
  have hR := h.hR
  have hRB := h.rd.1
  have hl := h.ltX
  have hRl := h.rd.lt
  have key : ∀ {e sz n : Nat} {v : Value} {ys : List Value}, W.ownsRow (X + 1) e sz v n ys → W'.ownsRow (X + 1) e sz v n ys := fun ho => ho.kept hb (.inr fun e => by have := (ho.lt _ e).1; omega)
  refine ⟨h.below.trans ⟨hb.os, hb.tape, hb.output, hb.size, fun k hk => hb.block k (by have := h.below.size; omega) (fun e => by have : k = R := Option.some.inj e; omega)⟩, (hb.block _ (by omega) (fun e => by have : w.heap.size = R := Option.some.inj e; omega)).trans h.res, hr, (hb.block _ hl (fun e => by have : X = R := Option.some.inj e; omega)).trans h.x, key h.ty, key h.fi, key h.ins, key h.outs, key h.cd, its_below h.its fun h0 => hb.block _ (by have := h.hlb h0; omega) (fun e => h.hlR (Option.some.inj e)), h.hlb, h.hlR, hR, hX⟩
theorem DJ.on (h : DJ w R B X lb loff l xs tv fv iv ov cv tl fl il ol cl s W) (hb : Below W.heap.size W W') : DJ w R B X lb loff l xs tv fv iv ov cv tl fl il ol cl s W' := by
  have hl := h.ltX
  have hX := h.hX
  have hR := h.hR
  have hRl := h.rd.lt
  exact ⟨h.below.trans (hb.mono h.below.size), (hb.block _ (by omega)).trans h.res, h.rd.on (hb.mono h.rd.2.1), (hb.block _ hl).trans h.x, owns_below h.ty hb, owns_below h.fi hb, owns_below h.ins hb, owns_below h.outs hb, owns_below h.cd hb, its_below h.its fun h0 => hb.block _ (by have := h.hlb h0; omega), h.hlb, h.hlR, hR, hX⟩
/-- what stays where rows grow behind X, and a cell of X is set -/
theorem DJ.far {w3 : World} {A : Obj} {row : Option Nat} (h : DJ w R B X lb loff l xs tv fv iv ov cv tl fl il ol cl s W) (hg : (W.alloc A).grownBy w3 row) (hrow : ∀ r, row = some r → X + 1 ≤ r) (j : Nat) (v : Value) :
    Below w.heap.size w (w3.setCell ⟨X, j, none⟩ v) ∧ (w3.setCell ⟨X, j, none⟩ v).heap[w.heap.size]? = some (.cells #[.string ⟨#[]⟩, .slice none 0 0, .slice none 0 0, .slice none 0 0, .slice none 0 0, .slice none 0 0] 26 (0, 0)) ∧ RDr B (w3.setCell ⟨X, j, none⟩ v) R l s ∧ (w3.setCell ⟨X, j, none⟩ v).heap[X]? = some (.cells ((#[.string xs, tv, fv, iv, ov, cv] : Array Value).setIfInBounds j v) 26 (0, 0)) ∧ ItsAt (w3.setCell ⟨X, j, none⟩ v) lb loff l := by
  have hX := h.hX
  have hR := h.hR
  have hRB := h.rd.1
  have hl := h.ltX
  have hRl := h.rd.lt
  have b3 : Below (X + 1) W w3 := ((Below.refl (X + 1) W).alloc (by omega) A).grown hg (by simp; omega) hrow
  have hx3 : w3.heap[X]? = some (.cells #[.string xs, tv, fv, iv, ov, cv] 26 (0, 0)) := (b3.block X (by omega)).trans h.x
  have b4 : Below X w3 (w3.setCell ⟨X, j, none⟩ v) := (Below.refl X w3).setCell (by simp) _
  refine ⟨(h.below.trans (b3.mono (by omega))).trans (b4.mono (by omega)), (b4.block _ (by omega)).trans ((b3.block _ (by omega)).trans h.res), (h.rd.on (b3.mono (by omega))).on (b4.mono hX), Lib.heap_setCell_same hx3 _, ?_⟩
  exact its_below (its_below h.its fun h0 => b3.block _ (by have := h.hlb h0; omega)) fun h0 => b4.block _ (by have := h.hlb h0; omega)
theorem DJ.tyApp {w3 : World} {A : Obj} {gg cap : Nat} {n : Int} (h : DJ w R B X lb loff l xs tv fv (.slice none 0 0) (.slice none 0 0) (.slice none 0 0) tl fl [] [] [] s W)
    (ho : w3.ownsRow (X + 1) 3 1 (.slice (some ⟨gg, 0, none⟩) (tl.length + 1) cap) (tl.length + 1) (intC tl ++ [.int .i64 n])) (hg : (W.alloc A).grownBy w3 tv.ownBlock) :
    DJ w R B X lb loff l xs (.slice (some ⟨gg, 0, none⟩) (tl.length + 1) cap) fv (.slice none 0 0) (.slice none 0 0) (.slice none 0 0) (tl ++ [n]) fl [] [] [] s (w3.setCell ⟨X, 1, none⟩ (.slice (some ⟨gg, 0, none⟩) (tl.length + 1) cap)) := by
  obtain ⟨f1, f2, f3, f4, f5⟩ := h.far hg (fun r hr => (h.ty.lt r hr).1) 1 (.slice (some ⟨gg, 0, none⟩) (tl.length + 1) cap)
  refine ⟨f1, f2, f3, f4, ?_, ?_, World.ownsRow_nil _ _ _ _, World.ownsRow_nil _ _ _ _, World.ownsRow_nil _ _ _ _, f5, h.hlb, h.hlR, h.hR, h.hX⟩
  · rw [intC_append, List.length_append]
    exact Wi.owns_set ho X 1 (by omega) _
  · exact Wi.owns_set ((h.fi.alloc A).kept hg (rows_apart h.fi h.ty (by decide))) X 1 (by omega) _
theorem DJ.fiApp {w3 : World} {A : Obj} {gg cap : Nat} {n : Int} (h : DJ w R B X lb loff l xs tv fv (.slice none 0 0) (.slice none 0 0) (.slice none 0 0) tl fl [] [] [] s W)
    (ho : w3.ownsRow (X + 1) 2 1 (.slice (some ⟨gg, 0, none⟩) (fl.length + 1) cap) (fl.length + 1) (intC fl ++ [.int .i64 n])) (hg : (W.alloc A).grownBy w3 fv.ownBlock) :
    DJ w R B X lb loff l xs tv (.slice (some ⟨gg, 0, none⟩) (fl.length + 1) cap) (.slice none 0 0) (.slice none 0 0) (.slice none 0 0) tl (fl ++ [n]) [] [] [] s (w3.setCell ⟨X, 2, none⟩ (.slice (some ⟨gg, 0, none⟩) (fl.length + 1) cap)) := by
  obtain ⟨f1, f2, f3, f4, f5⟩ := h.far hg (fun r hr => (h.fi.lt r hr).1) 2 (.slice (some ⟨gg, 0, none⟩) (fl.length + 1) cap)
  refine ⟨f1, f2, f3, f4, ?_, ?_, World.ownsRow_nil _ _ _ _, World.ownsRow_nil _ _ _ _, World.ownsRow_nil _ _ _ _, f5, h.hlb, h.hlR, h.hR, h.hX⟩
  · exact Wi.owns_set ((h.ty.alloc A).kept hg (rows_apart h.ty h.fi (by decide))) X 2 (by omega) _
  · rw [intC_append, List.length_append]
    exact Wi.owns_set ho X 2 (by omega) _
theorem inC_append (a b : List Ins) : inC (a ++ b) = inC a ++ inC b := by unfold inC; rw [List.flatMap_append]
theorem DJ.cdApp {w3 : World} {A : Obj} {gg cap : Nat} {i : Ins} (h : DJ w R B X lb loff l xs tv fv iv ov cv tl fl il ol cl s W)
    (ho : w3.ownsRow (X + 1) 41 4 (.slice (some ⟨gg, 0, none⟩) (cl.length + 1) cap) (cl.length + 1) (inC cl ++ [.int .i64 i.op, .int .i64 i.a, .int .i64 i.b, .int .i64 i.n])) (hg : (W.alloc A).grownBy w3 cv.ownBlock) :
    DJ w R B X lb loff l xs tv fv iv ov (.slice (some ⟨gg, 0, none⟩) (cl.length + 1) cap) tl fl il ol (cl ++ [i]) s (w3.setCell ⟨X, 5, none⟩ (.slice (some ⟨gg, 0, none⟩) (cl.length + 1) cap)) := by
  obtain ⟨f1, f2, f3, f4, f5⟩ := h.far hg (fun r hr => (h.cd.lt r hr).1) 5 (.slice (some ⟨gg, 0, none⟩) (cl.length + 1) cap)
  refine ⟨f1, f2, f3, f4, ?_, ?_, ?_, ?_, ?_, f5, h.hlb, h.hlR, h.hR, h.hX⟩
  · exact Wi.owns_set ((h.ty.alloc A).kept hg (rows_apart h.ty h.cd (by decide))) X 5 (by omega) _
  · exact Wi.owns_set ((h.fi.alloc A).kept hg (rows_apart h.fi h.cd (by decide))) X 5 (by omega) _
  · exact Wi.owns_set ((h.ins.alloc A).kept hg (rows_apart h.ins h.cd (by decide))) X 5 (by omega) _
  · exact Wi.owns_set ((h.outs.alloc A).kept hg (rows_apart h.outs h.cd (by decide))) X 5 (by omega) _
  · rw [inC_append, List.length_append]
    exact Wi.owns_set ho X 5 (by omega) _
theorem DJ.insSet {v : Value} {m : List Int} (h : DJ w R B X lb loff l xs tv fv iv ov cv tl fl il ol cl s W) (ho : W.ownsRow (X + 1) 3 1 v m.length (intC m)) : DJ w R B X lb loff l xs tv fv v ov cv tl fl m ol cl s (W.setCell ⟨X, 3, none⟩ v) := by
  have hX := h.hX
  have hR := h.hR
  have hRB := h.rd.1
  have b4 : Below X W (W.setCell ⟨X, 3, none⟩ v) := (Below.refl X W).setCell (by simp) _
  exact ⟨h.below.trans (b4.mono (by omega)), (b4.block _ (by omega)).trans h.res, h.rd.on (b4.mono hX), Lib.heap_setCell_same h.x _, Wi.owns_set h.ty X 3 (by omega) _, Wi.owns_set h.fi X 3 (by omega) _, Wi.owns_set ho X 3 (by omega) _, Wi.owns_set h.outs X 3 (by omega) _, Wi.owns_set h.cd X 3 (by omega) _, its_below h.its fun h0 => b4.block _ (by have := h.hlb h0; omega), h.hlb, h.hlR, hR, hX⟩
theorem DJ.outsSet {v : Value} {m : List Int} (h : DJ w R B X lb loff l xs tv fv iv ov cv tl fl il ol cl s W) (ho : W.ownsRow (X + 1) 3 1 v m.length (intC m)) : DJ w R B X lb loff l xs tv fv iv v cv tl fl il m cl s (W.setCell ⟨X, 4, none⟩ v) := by
  have hX := h.hX
  have hR := h.hR
  have hRB := h.rd.1
  have b4 : Below X W (W.setCell ⟨X, 4, none⟩ v) := (Below.refl X W).setCell (by simp) _
  exact ⟨h.below.trans (b4.mono (by omega)), (b4.block _ (by omega)).trans h.res, h.rd.on (b4.mono hX), Lib.heap_setCell_same h.x _, Wi.owns_set h.ty X 4 (by omega) _, Wi.owns_set h.fi X 4 (by omega) _, Wi.owns_set h.ins X 4 (by omega) _, Wi.owns_set ho X 4 (by omega) _, Wi.owns_set h.cd X 4 (by omega) _, its_below h.its fun h0 => b4.block _ (by have := h.hlb h0; omega), h.hlb, h.hlR, hR, hX⟩
/-- the image that is in memory -/
theorem DJ.im (h : DJ w R B X lb loff l xs tv fv iv ov cv tl fl il ol cl s W) : Im W (.string xs) tv fv iv ov cv ⟨xs.data.toList, tl, fl, il, ol, cl⟩ :=
  ⟨congrArg Value.string (Wi.of_list xs _ rfl), ILst.of_ownsE h.ty, ILst.of_ownsE h.fi, ILst.of_ownsE h.ins, ILst.of_ownsE h.outs, ISt.of_owns h.cd⟩
end
theorem RDr.parts {B : Nat} {w : World} {R : Nat} {l : List It} {s : Rs} (h : RDr B w R l s) : ∃ k, k ≤ l.length ∧ s.q = l.drop k ∧ w.cell? ⟨R, 1, none⟩ = some (.int .i64 (k : Int)) ∧ w.cell? ⟨R, 2, none⟩ = some (.bool s.bad) ∧ (∀ j, w.frozen? ⟨R, j, none⟩ = false) ∧
    (k + 1 ≤ l.length → RDr B (w.setCell ⟨R, 1, none⟩ (.int .i64 ((k : Int) + 1))) R l ⟨l.drop (k + 1), s.bad⟩) ∧ RDr B (w.setCell ⟨R, 2, none⟩ (.bool true)) R l ⟨s.q, true⟩ := by
  obtain ⟨hR, hB, a, b, off, cap, k, hk, hq, h0, hne, hA, hI⟩ := h
  refine ⟨k, hk, hq, (Lib.cell_of_heap (j := 1) h0).trans rfl, (Lib.cell_of_heap (j := 2) h0).trans rfl, fun j => Lib.frozen_of_heap h0 j, fun h1 => ?_, ?_⟩
  · exact (rdr_put (a := a) (cap := cap) (k' := k + 1) hR hB h1 rfl ((Lib.heap_setCell_same h0 _).trans rfl) (but_set w 1 _) hne hA hI).1
  · exact (rdr_put (a := a) (cap := cap) (k' := k) (s' := ⟨s.q, true⟩) hR hB hk hq ((Lib.heap_setCell_same h0 _).trans rfl) (but_set w 2 _) hne hA hI).1
end Go.Proofs.YtmbgcpmapaedcaaGreatDoor
namespace Go.Proofs.YtmbgcpmapaedcaaGreatDoor
open Go.RowKit
/-- so many cells from one on, all of its type -/
def smB (ty : List Int) (a m : Int) : Bool := fromB ty.length a m && ((ty.drop a.toNat).take m.toNat).all fun t => t == ty.getD a.toNat 0
theorem from_iff (n : Nat) (a m : Int) : fromB n a m = true ↔ 0 ≤ a ∧ a < (n : Int) ∧ m ≤ (n : Int) - a := by
  unfold fromB inB
  simp only [Bool.and_eq_true, decide_eq_true_eq]
  exact ⟨fun h => ⟨h.1.1, h.1.2, h.2⟩, fun h => ⟨⟨h.1, h.2.1⟩, h.2.2⟩⟩
theorem drewN_add (w : World) (a b : Nat) : (w.drewN a).drewN b = w.drewN (a + b) := by simp only [World.drewN, Nat.add_assoc]
set_option maxRecDepth 100000 in
set_option maxHeartbeats 3200000 in
theorem same13_any (nm ta fv iv ov cv : Value) (ty : List Int) (a m : Int) (w : World) (hT : ILst w ta ty) (hn : ty.length ≤ 1024) (hm1 : 1 ≤ m) (hm : m ≤ 32) : Calls Tryz.prog 45 #[.agg #[nm, ta, fv, iv, ov, cv], .int .i64 a, .int .i64 m] w fun e w' => e = .returned (.bool (smB ty a m)) ∧ Below w.heap.size w w' := by
  have HB1 : Hid (∀ A k, Below w.heap.size w ((w.alloc A).drewN k)) := fun A k => below_drewN ((Below.refl _ _).alloc (Nat.le_refl _) _) k
  have E : Hid (smB ty a m = (fromB ty.length a m && ((ty.drop a.toNat).take m.toNat).all fun t => t == ty.getD a.toNat 0)) := rfl
  obtain ⟨aa, ab, aoff, acap, rfl, hA, hI⟩ := hT
  have n1 : (ty.length : Int) ≤ 1024 := by omega
  by_cases h1 : 0 ≤ a
  · have d1 : decide (a < 0) = false := decide_eq_false (by omega)
    by_cases h2 : a < (ty.length : Int)
    · have d2 : decide ((ty.length : Int) ≤ a) = false := decide_eq_false (by omega)
      by_cases h3 : m ≤ (ty.length : Int) - a
      · have d3 : decide ((ty.length : Int) - a < m) = false := decide_eq_false (by omega)
        obtain ⟨p, rfl⟩ : ∃ p : Nat, a = (p : Int) := ⟨a.toNat, by omega⟩
        obtain ⟨q, rfl⟩ : ∃ q : Nat, m = (q : Int) := ⟨m.toNat, by omega⟩
        have HE : Hid (smB ty (p : Int) (q : Int) = ((ty.drop p).take q).all fun t => t == ty.getD p 0) := by
          show _ = _
          rw [E.out, (from_iff _ _ _).2 ⟨h1, h2, h3⟩]; rfl
        obtain ⟨T0, hT0⟩ : ∃ T0, ty[p]? = some T0 := ⟨_, List.getElem?_eq_getElem (by omega)⟩
        have hD : ty.getD p 0 = T0 := by rw [List.getD_eq_getElem?_getD, hT0]; rfl
        rw [hD] at HE
        obtain ⟨hab, rfl⟩ := hA (by omega)
        have ALL : ∀ A o, (w.alloc A).cell? ⟨ab, o, none⟩ = w.cell? ⟨ab, o, none⟩ := fun A o => World.cell?_alloc_lt _ _ ⟨ab, o, none⟩ hab
        have cT := hI p T0 hT0
        have HG : Hid (∀ k, k < q → ∃ x, ((ty.drop p).take q)[k]? = some x ∧ w.cell? ⟨ab, aoff + (p + k), none⟩ = some (.int .i64 x)) := fun k hk => by
          obtain ⟨x, hx⟩ : ∃ x, ty[p + k]? = some x := ⟨_, List.getElem?_eq_getElem (by omega)⟩
          exact ⟨x, by rw [arr_get hk]; exact hx, hI _ _ hx⟩
        have HQ : Hid (((ty.drop p).take q).take q = (ty.drop p).take q) := by show _ = _; rw [List.take_take, Nat.min_self]
        have HAL := hide ALL
        have HCT := hide cT
        clear E hA hI hD hT0 ALL cT
        generalize (ty.drop p).take q = L at *
        generalize ty.length = N at *
        have q0 : (0 : Int) ≤ (q : Int) := by omega
        go_enter Tryz.func45, Tryz.ntmps45
        go_wp2_with fail
        obtain ⟨W0, hW0⟩ : ∃ W0, W0 = w.alloc (.cells #[nm, .slice (some ⟨ab, aoff, none⟩) N acap, fv, iv, ov, cv] 26) := ⟨_, rfl⟩
        have c1 : W0.cell? ⟨w.heap.size, 1, none⟩ = some (.slice (some ⟨ab, aoff, none⟩) N acap) := by rw [hW0]; exact (Lib.cell_of_heap (j := 1) (heap_alloc_new w _)).trans rfl
        have cT : W0.cell? ⟨ab, aoff + p, none⟩ = some (.int .i64 T0) := by rw [hW0, HAL.out]; exact HCT.out
        have HG2 : Hid (∀ k, k < q → ∃ x, L[k]? = some x ∧ W0.cell? ⟨ab, aoff + (p + k), none⟩ = some (.int .i64 x)) := fun k hk => by
          obtain ⟨x, hx, hc⟩ := HG.out k hk
          exact ⟨x, hx, by rw [hW0, HAL.out]; exact hc⟩
        have BW : Hid (∀ k, Below w.heap.size w (W0.drewN k)) := fun k => by rw [hW0]; exact HB1.out _ k
        rw [← hW0]
        clear hW0 HG HAL HCT HB1
        go_loopw [7] (fun i wr => ∃ k : Nat, k ≤ q ∧ i = .int .i64 ((p + k : Nat) : Int) ∧ Hid ((L.take k).all (fun t => t == T0) = true ∧ ∃ d, wr = W0.drewN d)) (fun i _ => p + q - (intOf i).toNat)
        case atStart => exact ⟨0, by omega, by go_num, rfl, 0, rfl⟩
        case round =>
          obtain ⟨k, hk, rfl, hh⟩ := hrel
          obtain ⟨ha, d, rfl⟩ := hh.out
          have HA := hide ha
          clear hh ha
          obtain ⟨r, hr⟩ : ∃ r, r = p + k := ⟨_, rfl⟩
          have HR0 := hide hr
          by_cases hlt : k < q
          · have j1 : (r : Int) < (p : Int) + (q : Int) := by omega
            have j2 : (0 : Int) ≤ (r : Int) := by omega
            have j3 : (r : Int) < (N : Int) := by omega
            obtain ⟨x, hx, hcx⟩ := HG2.out k hlt
            rw [← hr] at hcx ⊢
            by_cases he : x = T0
            · have HR := hide (all_next HA.out hx he)
              have hb : (x == T0) = true := by simpa using he
              subst he
              clear hx hr
              go_wp2_with fail
              go_quiet (fail)
              go_wp2
              go_roundw
              case rel => exact ⟨k + 1, by omega, by rw [HR0.out]; go_num, HR.out, _, rfl⟩
              case measure => simp [intOf]; omega
            · have HR := hide (all_fail hx he)
              have hb : (x == T0) = false := by simpa using he
              have hb2 : ¬ x = T0 := he
              clear hx hr
              go_wp2_with fail
              go_quiet (fail)
              go_wp2
              go_ret
              exact ⟨ret_b (by rw [HE.out, HR.out]), below_drewN (BW.out _) _⟩
          · have HR : Hid (L.all (fun t => t == T0) = true) := by
              have h := HA.out
              rw [show k = q by omega, HQ.out] at h
              exact h
            have j1 : ¬ (r : Int) < (p : Int) + (q : Int) := by omega
            rw [← hr]
            clear hr
            go_wp2
            go_ret
            exact ⟨ret_b (by rw [HE.out, HR.out]), BW.out _⟩
      · have d3 : decide ((ty.length : Int) - a < m) = true := decide_eq_true (by omega)
        have HE : Hid (smB ty a m = false) := by
          show _ = _
          rw [E.out]
          cases hf : fromB ty.length a m with
          | true => exact absurd ((from_iff _ _ _).1 hf).2.2 h3
          | false => rfl
        clear E hA hI
        generalize ty.length = N at *
        go_enter Tryz.func45, Tryz.ntmps45
        go_wp2
        go_ret
        exact ⟨ret_b HE.out.symm, HB1.out _ 0⟩
    · have d2 : decide ((ty.length : Int) ≤ a) = true := decide_eq_true (by omega)
      have HE : Hid (smB ty a m = false) := by
        show _ = _
        rw [E.out]
        cases hf : fromB ty.length a m with
        | true => exact absurd ((from_iff _ _ _).1 hf).2.1 h2
        | false => rfl
      clear E hA hI
      generalize ty.length = N at *
      go_enter Tryz.func45, Tryz.ntmps45
      go_wp2
      go_ret
      exact ⟨ret_b HE.out.symm, HB1.out _ 0⟩
  · have d1 : decide (a < 0) = true := decide_eq_true (by omega)
    have HE : Hid (smB ty a m = false) := by
      show _ = _
      rw [E.out]
      cases hf : fromB ty.length a m with
      | true => exact absurd ((from_iff _ _ _).1 hf).1 h1
      | false => rfl
    clear E hA hI
    generalize ty.length = N at *
    go_enter Tryz.func45, Tryz.ntmps45
    go_wp2
    go_ret
    exact ⟨ret_b HE.out.symm, HB1.out _ 0⟩
end Go.Proofs.YtmbgcpmapaedcaaGreatDoor
namespace Go.Proofs.YtmbgcpmapaedcaaGreatDoor
open Go.RowKit
set_option maxRecDepth 100000 in
set_option maxHeartbeats 3200000 in
theorem rfields_ok (k : Int) (h : 1 ≤ k ∧ k ≤ 10) (w : World) : Calls Tryz.prog 80 #[.int .i64 k] w fun e w' => (∃ v, e = .returned (.tuple #[v, .int .i64 0]) ∧ FLst w' v (fldK k)) ∧ Below w.heap.size w w' := by
  have hk : k = 1 ∨ k = 2 ∨ k = 3 ∨ k = 4 ∨ k = 5 ∨ k = 6 ∨ k = 7 ∨ k = 8 ∨ k = 9 ∨ k = 10 := by omega
  clear h
  rcases hk with rfl | rfl | rfl | rfl | rfl | rfl | rfl | rfl | rfl | rfl
  all_goals
    go_enter Tryz.func80, Tryz.ntmps80
    go_wp2
    go_ret2
    refine ⟨⟨_, rfl, ?_⟩, (Below.refl w.heap.size w).alloc (Nat.le_refl _) _⟩
    refine FLst.new w _ 111 _ ?_ _ ?_
    · rfl
    · simp [rowsOk, fldK]
set_option maxRecDepth 100000 in
set_option maxHeartbeats 3200000 in
theorem rfields_no (k : Int) (h : ¬ (1 ≤ k ∧ k ≤ 10)) (w : World) : Calls Tryz.prog 80 #[.int .i64 k] w fun e w' => e = .returned (.tuple #[.slice none 0 0, .int .i64 92]) ∧ w' = w := by
  have h1 : (k == 1) = false := by rw [beq_eq_false_iff_ne]; omega
  have h2 : (k == 2) = false := by rw [beq_eq_false_iff_ne]; omega
  have h3 : (k == 3) = false := by rw [beq_eq_false_iff_ne]; omega
  have h4 : (k == 4) = false := by rw [beq_eq_false_iff_ne]; omega
  have h5 : (k == 5) = false := by rw [beq_eq_false_iff_ne]; omega
  have h6 : (k == 6) = false := by rw [beq_eq_false_iff_ne]; omega
  have h7 : (k == 7) = false := by rw [beq_eq_false_iff_ne]; omega
  have h8 : (k == 8) = false := by rw [beq_eq_false_iff_ne]; omega
  have h9 : (k == 9) = false := by rw [beq_eq_false_iff_ne]; omega
  have h10 : (k == 10) = false := by rw [beq_eq_false_iff_ne]; omega
  clear h
  go_enter Tryz.func80, Tryz.ntmps80
  go_wp2
  go_ret2
  exact ⟨rfl, rfl⟩
end Go.Proofs.YtmbgcpmapaedcaaGreatDoor
