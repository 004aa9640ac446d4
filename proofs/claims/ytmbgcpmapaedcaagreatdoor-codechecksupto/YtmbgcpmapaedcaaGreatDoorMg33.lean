/- What the document's Decode has while it reads. | Short forms of the kit's laws on drawn regions. | The document's Items. -/
import Derived.Test.YtmbgcpmapaedcaaGreatDoorMg32
import Derived.Deep.RegionHeldLaw
import Derived.Test.YtmbgcpmapaedcaaGreatDoorMg27
namespace Go.Proofs.YtmbgcpmapaedcaaGreatDoor
open Go.RowKit
open Wi (It itA ItsAt)
theorem rows_apart {w : World} {base base' e e' s s' n n' : Nat} {v v' : Value} {xs xs' : List Value} (h : w.ownsRow base e s v n xs) (h' : w.ownsRow base' e' s' v' n' xs') (he : e ≠ e') : v.ownBlock = none ∨ v.ownBlock ≠ v'.ownBlock := by
  rcases h.2 with ⟨hv, h0⟩ | ⟨g, cap, cur, hv, hb, hg, hn, hm, hc, ht⟩
  · subst hv; exact .inl rfl
  · subst hv
    right
    rcases h'.2 with ⟨hv', h0'⟩ | ⟨g', cap', cur', hv', hb', hg', hn', hm', hc', ht'⟩
    · subst hv'; intro x; cases x
    · subst hv'
      intro x
      have hx : g = g' := Option.some.inj x
      subst hx
      rw [hg] at hg'
      have := Option.some.inj hg'
      injection this with _ h2
      exact he h2
structure DJ (w : World) (R B X lb loff : Nat) (l : List It) (xs : ByteArray) (tv fv iv ov cv : Value) (tl fl il ol : List Int) (cl : List Ins) (s : Rs) (W : World) : Prop where
  below : Below w.heap.size w W
  res : W.heap[w.heap.size]? = some (.cells #[.string ⟨#[]⟩, .slice none 0 0, .slice none 0 0, .slice none 0 0, .slice none 0 0, .slice none 0 0] 26 (0, 0))
  rd : RDr B W R l s
  x : W.heap[X]? = some (.cells #[.string xs, tv, fv, iv, ov, cv] 26 (0, 0))
  ty : W.ownsRow (X + 1) 3 1 tv tl.length (intC tl)
  fi : W.ownsRow (X + 1) 2 1 fv fl.length (intC fl)
  ins : W.ownsRow (X + 1) 3 1 iv il.length (intC il)
  outs : W.ownsRow (X + 1) 3 1 ov ol.length (intC ol)
  cd : W.ownsRow (X + 1) 41 4 cv cl.length (inC cl)
  its : ItsAt W lb loff l
  hlb : 0 < l.length → lb < B
  hlR : lb ≠ R
  hR : w.heap.size < R
  hX : B ≤ X
section
variable {w W W' : World} {R B X lb loff : Nat} {l : List It} {xs : ByteArray} {tv fv iv ov cv : Value} {tl fl il ol : List Int} {cl : List Ins} {s s' : Rs}
theorem DJ.ltX (h : DJ w R B X lb loff l xs tv fv iv ov cv tl fl il ol cl s W) : X < W.heap.size := (Array.getElem?_eq_some_iff.1 h.x).1
theorem DJ.drew (h : DJ w R B X lb loff l xs tv fv iv ov cv tl fl il ol cl s W) : DJ w R B X lb loff l xs tv fv iv ov cv tl fl il ol cl s W.drew :=
  ⟨h.below.drew, h.res, h.rd, h.x, h.ty, h.fi, h.ins, h.outs, h.cd, h.its, h.hlb, h.hlR, h.hR, h.hX⟩
theorem DJ.cell (h : DJ w R B X lb loff l xs tv fv iv ov cv tl fl il ol cl s W) (j : Nat) : W.cell? ⟨X, j, none⟩ = (#[.string xs, tv, fv, iv, ov, cv] : Array Value)[j]? := Lib.cell_of_heap h.x j
theorem DJ.fro (h : DJ w R B X lb loff l xs tv fv iv ov cv tl fl il ol cl s W) (j : Nat) : W.frozen? ⟨X, j, none⟩ = false := Lib.frozen_of_heap h.x j
/-- the reader went on -/
theorem DJ.next (h : DJ w R B X lb loff l xs tv fv iv ov cv tl fl il ol cl s W) (hb : But R W W') (hr : RDr B W' R l s') : DJ w R B X lb loff l xs tv fv iv ov cv tl fl il ol cl s' W' := by
  have hX := h.hX
  have hR := h.hR
  have hRB := h.rd.1
  have hl := h.ltX
  have hRl := h.rd.lt
  have key : ∀ {e sz n : Nat} {v : Value} {ys : List Value}, W.ownsRow (X + 1) e sz v n ys → W'.ownsRow (X + 1) e sz v n ys := fun ho => ho.kept hb (.inr fun e => by have := (ho.lt _ e).1; omega)
  refine ⟨h.below.trans ⟨hb.os, hb.tape, hb.output, hb.size, fun k hk => hb.block k (by have := h.below.size; omega) (fun e => by have : k = R := Option.some.inj e; omega)⟩, (hb.block _ (by omega) (fun e => by have : w.heap.size = R := Option.some.inj e; omega)).trans h.res, hr, (hb.block _ hl (fun e => by have : X = R := Option.some.inj e; omega)).trans h.x, key h.ty, key h.fi, key h.ins, key h.outs, key h.cd, its_below h.its fun h0 => hb.block _ (by have := h.hlb h0; omega) (fun e => h.hlR (Option.some.inj e)), h.hlb, h.hlR, hR, hX⟩
theorem DJ.on (h : DJ w R B X lb loff l xs tv fv iv ov cv tl fl il ol cl s W) (hb : Below W.heap.size W W') : DJ w R B X lb loff l xs tv fv iv ov cv tl fl il ol cl s W' := by
  have hl := h.ltX
  have hX := h.hX
  have hR := h.hR
  have hRl := h.rd.lt
  exact ⟨h.below.trans (hb.mono h.below.size), (hb.block _ (by omega)).trans h.res, h.rd.on (hb.mono h.rd.2.1), (hb.block _ hl).trans h.x, owns_below h.ty hb, owns_below h.fi hb, owns_below h.ins hb, owns_below h.outs hb, owns_below h.cd hb, its_below h.its fun h0 => hb.block _ (by have := h.hlb h0; omega), h.hlb, h.hlR, hR, hX⟩
/-- what stays where rows grow behind X, and a cell of X is set -/
theorem DJ.far {w3 : World} {A : Obj} {row : Option Nat} (h : DJ w R B X lb loff l xs tv fv iv ov cv tl fl il ol cl s W) (hg : (W.alloc A).grownBy w3 row) (hrow : ∀ r, row = some r → X + 1 ≤ r) (j : Nat) (v : Value) :
    Below w.heap.size w (w3.setCell ⟨X, j, none⟩ v) ∧ (w3.setCell ⟨X, j, none⟩ v).heap[w.heap.size]? = some (.cells #[.string ⟨#[]⟩, .slice none 0 0, .slice none 0 0, .slice none 0 0, .slice none 0 0, .slice none 0 0] 26 (0, 0)) ∧ RDr B (w3.setCell ⟨X, j, none⟩ v) R l s ∧ (w3.setCell ⟨X, j, none⟩ v).heap[X]? = some (.cells ((#[.string xs, tv, fv, iv, ov, cv] : Array Value).setIfInBounds j v) 26 (0, 0)) ∧ ItsAt (w3.setCell ⟨X, j, none⟩ v) lb loff l := by
  have hX := h.hX
  have hR := h.hR
  have hRB := h.rd.1
  have hl := h.ltX
  have hRl := h.rd.lt
  have b3 : Below (X + 1) W w3 := ((Below.refl (X + 1) W).alloc (by omega) A).grown hg (by simp; omega) hrow
  have hx3 : w3.heap[X]? = some (.cells #[.string xs, tv, fv, iv, ov, cv] 26 (0, 0)) := (b3.block X (by omega)).trans h.x
  have b4 : Below X w3 (w3.setCell ⟨X, j, none⟩ v) := (Below.refl X w3).setCell (by simp) _
  refine ⟨(h.below.trans (b3.mono (by omega))).trans (b4.mono (by omega)), (b4.block _ (by omega)).trans ((b3.block _ (by omega)).trans h.res), (h.rd.on (b3.mono (by omega))).on (b4.mono hX), Lib.heap_setCell_same hx3 _, ?_⟩
  exact its_below (its_below h.its fun h0 => b3.block _ (by have := h.hlb h0; omega)) fun h0 => b4.block _ (by have := h.hlb h0; omega)
theorem DJ.tyApp {w3 : World} {A : Obj} {gg cap : Nat} {n : Int} (h : DJ w R B X lb loff l xs tv fv (.slice none 0 0) (.slice none 0 0) (.slice none 0 0) tl fl [] [] [] s W)
    (ho : w3.ownsRow (X + 1) 3 1 (.slice (some ⟨gg, 0, none⟩) (tl.length + 1) cap) (tl.length + 1) (intC tl ++ [.int .i64 n])) (hg : (W.alloc A).grownBy w3 tv.ownBlock) :
    DJ w R B X lb loff l xs (.slice (some ⟨gg, 0, none⟩) (tl.length + 1) cap) fv (.slice none 0 0) (.slice none 0 0) (.slice none 0 0) (tl ++ [n]) fl [] [] [] s (w3.setCell ⟨X, 1, none⟩ (.slice (some ⟨gg, 0, none⟩) (tl.length + 1) cap)) := by
  obtain ⟨f1, f2, f3, f4, f5⟩ := h.far hg (fun r hr => (h.ty.lt r hr).1) 1 (.slice (some ⟨gg, 0, none⟩) (tl.length + 1) cap)
  refine ⟨f1, f2, f3, f4, ?_, ?_, World.ownsRow_nil _ _ _ _, World.ownsRow_nil _ _ _ _, World.ownsRow_nil _ _ _ _, f5, h.hlb, h.hlR, h.hR, h.hX⟩
  · rw [intC_append, List.length_append]
    exact Wi.owns_set ho X 1 (by omega) _
  · exact Wi.owns_set ((h.fi.alloc A).kept hg (rows_apart h.fi h.ty (by decide))) X 1 (by omega) _
theorem DJ.fiApp {w3 : World} {A : Obj} {gg cap : Nat} {n : Int} (h : DJ w R B X lb loff l xs tv fv (.slice none 0 0) (.slice none 0 0) (.slice none 0 0) tl fl [] [] [] s W)
    (ho : w3.ownsRow (X + 1) 2 1 (.slice (some ⟨gg, 0, none⟩) (fl.length + 1) cap) (fl.length + 1) (intC fl ++ [.int .i64 n])) (hg : (W.alloc A).grownBy w3 fv.ownBlock) :
    DJ w R B X lb loff l xs tv (.slice (some ⟨gg, 0, none⟩) (fl.length + 1) cap) (.slice none 0 0) (.slice none 0 0) (.slice none 0 0) tl (fl ++ [n]) [] [] [] s (w3.setCell ⟨X, 2, none⟩ (.slice (some ⟨gg, 0, none⟩) (fl.length + 1) cap)) := by
  obtain ⟨f1, f2, f3, f4, f5⟩ := h.far hg (fun r hr => (h.fi.lt r hr).1) 2 (.slice (some ⟨gg, 0, none⟩) (fl.length + 1) cap)
  refine ⟨f1, f2, f3, f4, ?_, ?_, World.ownsRow_nil _ _ _ _, World.ownsRow_nil _ _ _ _, World.ownsRow_nil _ _ _ _, f5, h.hlb, h.hlR, h.hR, h.hX⟩
  · exact Wi.owns_set ((h.ty.alloc A).kept hg (rows_apart h.ty h.fi (by decide))) X 2 (by omega) _
  · rw [intC_append, List.length_append]
    exact Wi.owns_set ho X 2 (by omega) _
theorem inC_append (a b : List Ins) : inC (a ++ b) = inC a ++ inC b := by unfold inC; rw [List.flatMap_append]
theorem DJ.cdApp {w3 : World} {A : Obj} {gg cap : Nat} {i : Ins} (h : DJ w R B X lb loff l xs tv fv iv ov cv tl fl il ol cl s W)
    (ho : w3.ownsRow (X + 1) 41 4 (.slice (some ⟨gg, 0, none⟩) (cl.length + 1) cap) (cl.length + 1) (inC cl ++ [.int .i64 i.op, .int .i64 i.a, .int .i64 i.b, .int .i64 i.n])) (hg : (W.alloc A).grownBy w3 cv.ownBlock) :
    DJ w R B X lb loff l xs tv fv iv ov (.slice (some ⟨gg, 0, none⟩) (cl.length + 1) cap) tl fl il ol (cl ++ [i]) s (w3.setCell ⟨X, 5, none⟩ (.slice (some ⟨gg, 0, none⟩) (cl.length + 1) cap)) := by
  obtain ⟨f1, f2, f3, f4, f5⟩ := h.far hg (fun r hr => (h.cd.lt r hr).1) 5 (.slice (some ⟨gg, 0, none⟩) (cl.length + 1) cap)
  refine ⟨f1, f2, f3, f4, ?_, ?_, ?_, ?_, ?_, f5, h.hlb, h.hlR, h.hR, h.hX⟩
  · exact Wi.owns_set ((h.ty.alloc A).kept hg (rows_apart h.ty h.cd (by decide))) X 5 (by omega) _
  · exact Wi.owns_set ((h.fi.alloc A).kept hg (rows_apart h.fi h.cd (by decide))) X 5 (by omega) _
  · exact Wi.owns_set ((h.ins.alloc A).kept hg (rows_apart h.ins h.cd (by decide))) X 5 (by omega) _
  · exact Wi.owns_set ((h.outs.alloc A).kept hg (rows_apart h.outs h.cd (by decide))) X 5 (by omega) _
  · rw [inC_append, List.length_append]
    exact Wi.owns_set ho X 5 (by omega) _
theorem DJ.insSet {v : Value} {m : List Int} (h : DJ w R B X lb loff l xs tv fv iv ov cv tl fl il ol cl s W) (ho : W.ownsRow (X + 1) 3 1 v m.length (intC m)) : DJ w R B X lb loff l xs tv fv v ov cv tl fl m ol cl s (W.setCell ⟨X, 3, none⟩ v) := by
  have hX := h.hX
  have hR := h.hR
  have hRB := h.rd.1
  have b4 : Below X W (W.setCell ⟨X, 3, none⟩ v) := (Below.refl X W).setCell (by simp) _
  exact ⟨h.below.trans (b4.mono (by omega)), (b4.block _ (by omega)).trans h.res, h.rd.on (b4.mono hX), Lib.heap_setCell_same h.x _, Wi.owns_set h.ty X 3 (by omega) _, Wi.owns_set h.fi X 3 (by omega) _, Wi.owns_set ho X 3 (by omega) _, Wi.owns_set h.outs X 3 (by omega) _, Wi.owns_set h.cd X 3 (by omega) _, its_below h.its fun h0 => b4.block _ (by have := h.hlb h0; omega), h.hlb, h.hlR, hR, hX⟩
theorem DJ.outsSet {v : Value} {m : List Int} (h : DJ w R B X lb loff l xs tv fv iv ov cv tl fl il ol cl s W) (ho : W.ownsRow (X + 1) 3 1 v m.length (intC m)) : DJ w R B X lb loff l xs tv fv iv v cv tl fl il m cl s (W.setCell ⟨X, 4, none⟩ v) := by
  have hX := h.hX
  have hR := h.hR
  have hRB := h.rd.1
  have b4 : Below X W (W.setCell ⟨X, 4, none⟩ v) := (Below.refl X W).setCell (by simp) _
  exact ⟨h.below.trans (b4.mono (by omega)), (b4.block _ (by omega)).trans h.res, h.rd.on (b4.mono hX), Lib.heap_setCell_same h.x _, Wi.owns_set h.ty X 4 (by omega) _, Wi.owns_set h.fi X 4 (by omega) _, Wi.owns_set h.ins X 4 (by omega) _, Wi.owns_set ho X 4 (by omega) _, Wi.owns_set h.cd X 4 (by omega) _, its_below h.its fun h0 => b4.block _ (by have := h.hlb h0; omega), h.hlb, h.hlR, hR, hX⟩
/-- the image that is in memory -/
theorem DJ.im (h : DJ w R B X lb loff l xs tv fv iv ov cv tl fl il ol cl s W) : Im W (.string xs) tv fv iv ov cv ⟨xs.data.toList, tl, fl, il, ol, cl⟩ :=
  ⟨congrArg Value.string (Wi.of_list xs _ rfl), ILst.of_ownsE h.ty, ILst.of_ownsE h.fi, ILst.of_ownsE h.ins, ILst.of_ownsE h.outs, ISt.of_owns h.cd⟩
end
theorem RDr.parts {B : Nat} {w : World} {R : Nat} {l : List It} {s : Rs} (h : RDr B w R l s) : ∃ k, k ≤ l.length ∧ s.q = l.drop k ∧ w.cell? ⟨R, 1, none⟩ = some (.int .i64 (k : Int)) ∧ w.cell? ⟨R, 2, none⟩ = some (.bool s.bad) ∧ (∀ j, w.frozen? ⟨R, j, none⟩ = false) ∧
    (k + 1 ≤ l.length → RDr B (w.setCell ⟨R, 1, none⟩ (.int .i64 ((k : Int) + 1))) R l ⟨l.drop (k + 1), s.bad⟩) ∧ RDr B (w.setCell ⟨R, 2, none⟩ (.bool true)) R l ⟨s.q, true⟩ := by
  obtain ⟨hR, hB, a, b, off, cap, k, hk, hq, h0, hne, hA, hI⟩ := h
  refine ⟨k, hk, hq, (Lib.cell_of_heap (j := 1) h0).trans rfl, (Lib.cell_of_heap (j := 2) h0).trans rfl, fun j => Lib.frozen_of_heap h0 j, fun h1 => ?_, ?_⟩
  · exact (rdr_put (a := a) (cap := cap) (k' := k + 1) hR hB h1 rfl ((Lib.heap_setCell_same h0 _).trans rfl) (but_set w 1 _) hne hA hI).1
  · exact (rdr_put (a := a) (cap := cap) (k' := k) (s' := ⟨s.q, true⟩) hR hB hk hq ((Lib.heap_setCell_same h0 _).trans rfl) (but_set w 2 _) hne hA hI).1
end Go.Proofs.YtmbgcpmapaedcaaGreatDoor
namespace Go.Proofs.YtmbgcpmapaedcaaGreatDoor
theorem tkH {P : Program} {ops : Array Oper} {Q : Exit → Act → World → Prop} {md : Region.Mode} {S : World → Prop} (i : Nat) {d : Option Tmp} {o : Op} {t : TypeId} {p : String} {f : Array Edge} {fuel : Nat} {listed : Array Bool} {a : Act} {w : World} (v : Value) (hS : S w)
    (h : wpAnyH P md ops Q S fuel (listed.setIfInBounds i true) (a.put d v) w) (hi : ops[i]? = some ⟨d, o, t, p, f, none⟩ := by rfl) (hs : Region.noSelect ops = true := by kernel_rfl) (hf : Region.free md ops listed i = true := by kernel_rfl)
    (hr : (Region.ready md ops listed).contains i = true := by kernel_rfl) (hQ : ∀ c a w, Q (.panic c) (a.put d v) w → Q (.panic c) a w := by exact fun _ _ _ h => h) (hy : YieldsIf P ops S ⟨d, o, t, p, f, none⟩ v a := by exact Or.inl ⟨by rfl, fun W hW => by ((try dsimp only at hW); go_simp)⟩) :
    wpAnyH P md ops Q S (fuel + 1) listed a w := wpAnyH_take hi hs hf hr hQ hy hS h
theorem rdH {P : Program} {ops : Array Oper} {Q : Exit → Act → World → Prop} {md : Region.Mode} {S : World → Prop} (i : Nat) {d : Option Tmp} {o : Op} {t : TypeId} {p : String} {f : Array Edge} {fuel : Nat} {listed : Array Bool} {a : Act} {w : World}
    (h : ∀ K' : Act → World → Prop, Shut (∀ a w, S w → (S w → wpAnyH P md ops Q S fuel (listed.setIfInBounds i true) a w) → K' a w) → if Region.wanted (⟨d, o, t, p, f, none⟩ : Oper) (yielded ops a.tmps) = true then Oper.wp P ⟨d, o, t, p, f, none⟩ a w K' Q else K' (a.put d undef) w)
    (hi : ops[i]? = some ⟨d, o, t, p, f, none⟩ := by rfl) (hr : Region.ready md ops listed = [i] := by kernel_rfl) : wpAnyH P md ops Q S (fuel + 1) listed a w :=
  wpAnyH_ready hr (by simp) (AllReadyH.cons hi h AllReadyH.nil)
end Go.Proofs.YtmbgcpmapaedcaaGreatDoor
namespace Go.Proofs.YtmbgcpmapaedcaaGreatDoor
open Go.RowKit
open Wi (App encB It itC itsC)
set_option maxRecDepth 100000 in
theorem rnumit_any (n : Int) (w : World) : Calls Tryz.prog 57 #[.int .i64 n] w fun e w' => e = .returned (.agg #[.bool false, .int .i64 n, .string ⟨#[]⟩]) ∧ Below w.heap.size w w' := by
  go_enter Tryz.func57, Tryz.ntmps57
  go_wp2
  refine bodyPost_ret (v := .agg #[.bool false, .int .i64 n, .string ⟨#[]⟩]) (by simp [results, Tryz.results57, go_sem]) rfl ⟨rfl, (Below.refl _ _).alloc (Nat.le_refl _) _⟩
theorem byte_hi (a : Int) (h0 : 0 ≤ a) (h1 : a < 65536) : encB (byI a 1) = .int .u8 (a / 256) ∧ encB (byI a 0) = .int .u8 (a % 256) := by
  constructor
  · rw [byI_enc]; congr 1; omega
  · rw [byI_enc]; congr 1; omega
theorem shr_byte (n : Int) (k : Nat) (hk : k ≤ 5) : (n % 18446744073709551616) / 2 ^ (8 * k) % 256 = n / 2 ^ (8 * k) % 256 := by
  have : k = 0 ∨ k = 1 ∨ k = 2 ∨ k = 3 ∨ k = 4 ∨ k = 5 := by omega
  rcases this with rfl | rfl | rfl | rfl | rfl | rfl <;> simp <;> omega
theorem insB_parts (i : Ins) (h : InsR i) : (insB i).map encB = [.int .u8 i.op, .int .u8 (i.a / 256), .int .u8 (i.a % 256), .int .u8 (i.b / 256), .int .u8 (i.b % 256)] ++ (hiB i.n 6).map encB := by
  unfold insB
  obtain ⟨a1, a2⟩ := byte_hi i.a h.a0 h.a1
  obtain ⟨b1, b2⟩ := byte_hi i.b h.b0 h.b1
  have ho : encB (UInt8.ofNat (i.op % 256).toNat) = .int .u8 i.op := by
    rw [opB_enc]; congr 1; have := h.o0; have := h.o1; omega
  rw [List.map_cons, List.map_append, List.map_append, ho]
  show _ :: ([encB (byI i.a 1), encB (byI i.a 0)] ++ ([encB (byI i.b 1), encB (byI i.b 0)] ++ _)) = _
  rw [a1, a2, b1, b2]; rfl
theorem blk_apart {w : World} {base e s n e' C : Nat} {v : Value} {xs : List Value} {cs : Array Value} {fr : Nat × Nat} (h : w.ownsRow base e s v n xs) (h' : w.heap[C]? = some (.cells cs e' fr)) (he : e ≠ e') : v.ownBlock ≠ some C := by
  rcases h.2 with ⟨hv, h0⟩ | ⟨g, cap, cur, hv, hb, hg, hn, hm, hc, ht⟩
  · subst hv; intro x; cases x
  · subst hv
    intro x
    have hx : g = C := Option.some.inj x
    subst hx
    rw [hg] at h'
    have := Option.some.inj h'
    injection this with _ h2
    exact he h2
end Go.Proofs.YtmbgcpmapaedcaaGreatDoor
