/- FoP | HlW | FoC -/
import Derived.Test.YtldjiieckddhkaaGreatDoorMg25
import Derived.Deep.RegionHeldLaw
namespace Go.Proofs.YtldjiieckddhkaaGreatDoor
open Go.RowKit
def foldK (x : List Pt) (k : Nat) : List Pt := (x.take k).foldl foldS []
theorem foldK_zero (x : List Pt) : foldK x 0 = [] := by unfold foldK; rw [List.take_zero]; rfl
theorem foldK_all (x : List Pt) : foldK x x.length = foldP x := by unfold foldK foldP; rw [List.take_length]
theorem foldK_succ {x : List Pt} {k : Nat} {p : Pt} (h : x[k]? = some p) : foldK x (k + 1) = foldS (foldK x k) p := by
  unfold foldK
  rw [List.take_add_one, h, List.foldl_append]; rfl
theorem foldS_len (out : List Pt) (p : Pt) : out.length - takes p + 1 ≤ (foldS out p).length ∧ (foldS out p).length ≤ out.length + 1 := by
  unfold foldS
  split
  · rw [List.length_append, List.length_take, Nat.min_eq_left (Nat.sub_le _ _)]
    exact ⟨Nat.le_refl _, by show _ + 1 ≤ _; omega⟩
  · rw [List.length_append]
    exact ⟨by show _ ≤ _ + 1; omega, Nat.le_refl _⟩
theorem foldK_len (x : List Pt) : ∀ k, k ≤ x.length → (spAt x k).length ≤ (foldK x k).length ∧ (foldK x k).length ≤ k
  | 0, _ => by rw [foldK_zero]; exact ⟨Nat.le_refl _, Nat.le_refl _⟩
  | k + 1, hk => by
    obtain ⟨h1, h2⟩ := foldK_len x k (by omega)
    obtain ⟨p, hp⟩ : ∃ p, x[k]? = some p := ⟨_, List.getElem?_eq_getElem (by omega)⟩
    obtain ⟨h3, h4⟩ := foldS_len (foldK x k) p
    rw [foldK_succ hp, spAt_succ hp, spStep_length]
    exact ⟨by omega, by omega⟩
theorem foldK_takes {x : List Pt} (hW : Wf x 0) {k : Nat} {p : Pt} (hp : x[k]? = some p) : takes p ≤ (foldK x k).length := by
  have hk := (List.getElem?_eq_some_iff.1 hp).1
  exact Nat.le_trans (spAt_takes hW hp) (foldK_len x k (by omega)).1
theorem foldS_some {out : List Pt} {p q : Pt} (h : reckP p (out.drop (out.length - takes p)) = some q) : foldS out p = out.take (out.length - takes p) ++ [q] := by unfold foldS; rw [h]
theorem foldS_none {out : List Pt} {p : Pt} (h : reckP p (out.drop (out.length - takes p)) = none) : foldS out p = out ++ [p] := by unfold foldS; rw [h]
theorem own_chg {B0 : Nat} {O : List Nat} {A B : World} (h : Chg B0 O A B) {base e size n : Nat} {v : Value} {xs : List Value} (ho : A.ownsRow base e size v n xs) (hn : ∀ g, v.ownBlock = some g → g ∉ O) : B.ownsRow base e size v n xs := by
  refine ⟨ho.1, ?_⟩
  rcases ho.2 with h1 | ⟨g, cap, cur, h1, r2, r3, r4, r5, r6, r7⟩
  · exact .inl h1
  · subst h1
    exact .inr ⟨g, cap, cur, rfl, r2, h.block g _ r3 (hn g rfl) (.inr rfl), r4, r5, r6, r7⟩
theorem own_lt {A : World} {base e size n g : Nat} {v : Value} {xs : List Value} (ho : A.ownsRow base e size v n xs) (h : v.ownBlock = some g) : g < A.heap.size := by
  rcases ho.2 with ⟨h1, -⟩ | ⟨g', cap, cur, h1, r2, r3, -⟩
  · subst h1; cases h
  · subst h1
    obtain rfl : g' = g := by simpa [Value.ownBlock] using h
    exact (Array.getElem?_eq_some_iff.1 r3).1
structure FoI (w : World) (v : Value) (x : List Pv) (pre : List Stp) (O : List Nat) (W : World) : Prop where
  ex : ∃ (o : List Pv) (ov : Value), o.map ptV = foldK (x.map ptV) pre.length ∧ W.heap[w.heap.size + 1]? = some (.cells #[ov] 23) ∧ W.ownsRow (w.heap.size + 3) 38 5 ov o.length (pvsC o) ∧ ∀ g, ov.ownBlock = some g → g ∉ O
  far : ∀ k ∈ O, w.heap.size + 3 ≤ k
  box : W.heap[w.heap.size]? = some (.cells #[v] 23)
  below : Below w.heap.size w W
  room : w.heap.size + 3 ≤ W.heap.size
  lt : ∀ k ∈ O, k < W.heap.size
theorem FoI.chg {w : World} {v : Value} {x : List Pv} (pre : List Stp) (O O' : List Nat) (A B : World) (h : FoI w v x pre O A) (hc : Chg (w.heap.size + 3) O A B) (hg : Grows O O' A B) : FoI w v x pre O' B := by
  obtain ⟨o, ov, h1, h2, h3, h4⟩ := h.ex
  have z1 := (Array.getElem?_eq_some_iff.1 h2).1
  refine ⟨⟨o, ov, h1, hc.block _ _ h2 (fun hk => by have := h.far _ hk; omega) (.inl (by omega)), own_chg hc h3 h4, fun g hg' hk => ?_⟩, fun k hk => ?_, hc.block _ _ h.box (fun hk => by have := h.far _ hk; omega) (.inl (by omega)), ?_, Nat.le_trans h.room hc.size, fun k hk => (hg.2 k hk).elim (fun hk => Nat.lt_of_lt_of_le (h.lt k hk) hc.size) (fun hk => hk.2)⟩
  · rcases hg.2 g hk with hk | hk
    · exact h4 g hg' hk
    · have := own_lt h3 hg'; have := hk.1; omega
  · rcases hg.2 k hk with hk | hk
    · exact h.far k hk
    · have := h.room; have := hk.1; omega
  · exact h.below.trans ⟨hc.os, hc.tape, hc.output, hc.size, fun k hk => by
      have hk' : k < A.heap.size := Nat.lt_of_lt_of_le hk h.below.size
      exact (hc.block k _ (Array.getElem?_eq_getElem hk') (fun hO => by have := h.far k hO; omega) (.inl (by omega))).trans (Array.getElem?_eq_getElem hk').symm⟩
end Go.Proofs.YtldjiieckddhkaaGreatDoor
namespace Go.Proofs.YtldjiieckddhkaaGreatDoor
theorem tkH {P : Program} {ops : Array Oper} {Q : Exit → Act → World → Prop} {md : Region.Mode} {S : World → Prop} (i : Nat) {d : Option Tmp} {o : Op} {t : TypeId} {p : String} {f : Array Edge} {fuel : Nat} {listed : Array Bool} {a : Act} {w : World} (v : Value) (hS : S w)
    (h : wpAnyH P md ops Q S fuel (listed.setIfInBounds i true) (a.put d v) w) (hi : ops[i]? = some ⟨d, o, t, p, f, none⟩ := by rfl) (hs : Region.noSelect ops = true := by kernel_rfl) (hf : Region.free md ops listed i = true := by kernel_rfl)
    (hr : (Region.ready md ops listed).contains i = true := by kernel_rfl) (hQ : ∀ c a w, Q (.panic c) (a.put d v) w → Q (.panic c) a w := by exact fun _ _ _ h => h) (hy : YieldsIf P ops S ⟨d, o, t, p, f, none⟩ v a := by exact Or.inl ⟨by rfl, fun W hW => by ((try dsimp only at hW); go_simp)⟩) :
    wpAnyH P md ops Q S (fuel + 1) listed a w := wpAnyH_take hi hs hf hr hQ hy hS h
theorem rdH {P : Program} {ops : Array Oper} {Q : Exit → Act → World → Prop} {md : Region.Mode} {S : World → Prop} (i : Nat) {d : Option Tmp} {o : Op} {t : TypeId} {p : String} {f : Array Edge} {fuel : Nat} {listed : Array Bool} {a : Act} {w : World}
    (h : ∀ K' : Act → World → Prop, Shut (∀ a w, S w → (S w → wpAnyH P md ops Q S fuel (listed.setIfInBounds i true) a w) → K' a w) → if Region.wanted (⟨d, o, t, p, f, none⟩ : Oper) (yielded ops a.tmps) = true then Oper.wp P ⟨d, o, t, p, f, none⟩ a w K' Q else K' (a.put d undef) w)
    (hi : ops[i]? = some ⟨d, o, t, p, f, none⟩ := by rfl) (hr : Region.ready md ops listed = [i] := by kernel_rfl) : wpAnyH P md ops Q S (fuel + 1) listed a w :=
  wpAnyH_ready hr (by simp) (AllReadyH.cons hi h AllReadyH.nil)
open Go.RowKit Go.Shelf Go.Sort
def noDefer (ops : Array Oper) : Bool := ops.all fun o => match o.op with | .defer _ => false | _ => true
theorem noDefer_spec {ops : Array Oper} (h : noDefer ops = true) (i : Nat) (o : Oper) (ho : ops[i]? = some o) (c) : o.op ≠ .defer c := fun e => by
  unfold noDefer at h
  rw [Array.all_eq_true] at h
  obtain ⟨hi, he⟩ := Array.getElem?_eq_some_iff.1 ho
  have := h i hi
  rw [he, e] at this
  cases this
set_option maxRecDepth 100000 in
theorem pv_from {w : World} {base : Nat} {v : Value} {st : List Pv} (h : w.ownsRow base 38 5 v st.length (pvsC st)) (F : Nat) (hF : F ≤ st.length) :
    ∃ ov, (∀ W, (Instr.slice 23 v (some (.int .i64 (F : Int))) none none).run Tryz.prog W = .ok ov W) ∧ PLst w ov (st.drop F) := by
  rcases h.2 with ⟨rfl, h0⟩ | ⟨g, cap, cur, rfl, hb, hg, hn, hm, hc, ht⟩
  · have hl : st = [] := List.eq_nil_of_length_eq_zero h0
    subst hl
    obtain rfl : F = 0 := by simpa using hF
    exact ⟨.slice none 0 0, fun W => by simp [go_sem], none, 0, 0, 0, rfl, fun h => absurd h (Nat.lt_irrefl 0), fun i x hx => by cases hx⟩
  · have i1 : (F : Int) ≤ (st.length : Int) := by omega
    have i2 : (st.length : Int) ≤ (cap : Int) := by omega
    have i0 : (0 : Int) ≤ (F : Int) := by omega
    by_cases e : cap = F
    · refine ⟨.slice (some ⟨g, 0, none⟩) (st.length - F) (cap - F), fun W => by simp [go_sem, *], ?_⟩
      have : st.drop F = [] := List.drop_eq_nil_of_le (by omega)
      rw [this]
      exact ⟨_, g, 0, _, by rw [show st.length - F = 0 from by omega]; rfl, fun h => absurd h (Nat.lt_irrefl 0), fun i x hx => by cases hx⟩
    · refine ⟨.slice (some ⟨g, F * 5, none⟩) (st.length - F) (cap - F), fun W => by simp [go_sem, *], _, g, F * 5, _, by rw [List.length_drop], fun _ => ⟨(Array.getElem?_eq_some_iff.1 hg).1, rfl⟩, fun i x hx => ?_⟩
      rw [List.getElem?_drop] at hx
      obtain ⟨hi, he⟩ := List.getElem?_eq_some_iff.1 hx
      have key : ∀ j, j < 5 → w.cell? ⟨g, (F + i) * 5 + j, none⟩ = (pvC x)[j]? := fun j hj => by
        rw [h.cellAt ((F + i) * 5 + j) (by omega), pvsC_get st (F + i) j hi hj, he]
      rw [show F * 5 + i * 5 = (F + i) * 5 from by omega]
      exact ⟨key 0 (by omega), key 1 (by omega), key 2 (by omega), key 3 (by omega), key 4 (by omega)⟩
theorem pvsC_take (st : List Pv) (k : Nat) : (pvsC st).take (k * 5) = pvsC (st.take k) := by
  induction st generalizing k with
  | nil => simp [pvsC]
  | cons x l ih =>
    match k with
    | 0 => simp [pvsC]
    | k + 1 =>
      rw [pvsC_cons, List.take_append, show (pvC x).length = 5 from rfl, show (k + 1) * 5 - 5 = k * 5 from by omega, ih k, List.take_of_length_le (by show 5 ≤ _; omega)]; rfl
set_option maxRecDepth 100000 in
theorem pv_to {w : World} {base : Nat} {v : Value} {st : List Pv} (h : w.ownsRow base 38 5 v st.length (pvsC st)) (F : Nat) (hF : F ≤ st.length) :
    ∃ a cap, (∀ W, (Instr.slice 23 v none (some (.int .i64 (F : Int))) none).run Tryz.prog W = .ok (.slice a F cap) W) ∧ w.ownsRow base 38 5 (.slice a F cap) F (pvsC (st.take F)) ∧ (Value.slice a F cap).ownBlock = v.ownBlock := by
  obtain ⟨a, cap, rfl, hc⟩ := own_form3 h
  refine ⟨a, cap, fun W => ?_, by rw [← pvsC_take]; exact own_takeN h F hF, ?_⟩
  · have i1 : (F : Int) ≤ (cap : Int) := by omega
    have i0 : (0 : Int) ≤ (F : Int) := by omega
    have i3 : ¬ cap < F := by omega
    rcases h.2 with ⟨h1, h0⟩ | ⟨g, cap', cur, h1, -⟩
    · injection h1 with e1 e2 e3
      subst e1 e3
      obtain rfl : F = 0 := by omega
      simp [go_sem]
    · injection h1 with e1 e2 e3
      subst e1 e3
      simp [go_sem, *]
  · cases a <;> rfl
end Go.Proofs.YtldjiieckddhkaaGreatDoor
namespace Go.Proofs.YtldjiieckddhkaaGreatDoor
open Go.RowKit Go.Shelf
theorem fo_close {w W W2 w7 : World} {v rv ov : Value} {x o o' : List Pv} {pre : List Stp} {s : Stp} {O : List Nat} {b gg m cap' m' : Nat} {z : Obj}
    (hl' : o'.length = m') (hF : FoI w v x pre O W) (hb2 : Below W.heap.size W W2) (hbw : b < w.heap.size)
    (ho : W.heap[w.heap.size + 1]? = some (.cells #[ov] 23)) (hrow : W.ownsRow (w.heap.size + 3) 38 5 rv m (pvsC o)) (hnot : ∀ g, rv.ownBlock = some g → g ∉ O)
    (g7 : (W2.alloc z).grownBy w7 rv.ownBlock) (hat : rv.ownBlock = some gg ∨ gg = W2.heap.size + 1)
    (h7 : w7.ownsRow (w.heap.size + 3) 38 5 (.slice (some ⟨gg, 0, none⟩) m' cap') m' (pvsC o')) (he : o'.map ptV = foldK (x.map ptV) (pre.length + 1)) :
    KeepsOthers W (w7.setCell ⟨w.heap.size + 1, 0, none⟩ (.slice (some ⟨gg, 0, none⟩) m' cap')) ∧ OwnK ([w.heap.size + 2, b] ++ O) W (w7.setCell ⟨w.heap.size + 1, 0, none⟩ (.slice (some ⟨gg, 0, none⟩) m' cap')) ∧
      FoI w v x (pre ++ [s]) O (w7.setCell ⟨w.heap.size + 1, 0, none⟩ (.slice (some ⟨gg, 0, none⟩) m' cap')) := by
  subst hl'
  have hlt : ∀ r, rv.ownBlock = some r → w.heap.size + 3 ≤ r ∧ r < W.heap.size := fun r hr => ⟨(hrow.lt r hr).1, own_lt hrow hr⟩
  have hOlt := hF.lt
  have z1 := hb2.size
  have z2 := hF.room
  have z3 : W.heap.size ≤ w7.heap.size := by have := g7.size; rw [World.size_alloc] at this; omega
  have key : ∀ k, k < W.heap.size → rv.ownBlock ≠ some k → w7.heap[k]? = W.heap[k]? := fun k hk hr => by
    rw [g7.block k (by rw [World.size_alloc]; omega) (fun h => hr h.symm), Lib.alloc_old _ _ _ (by omega)]
    exact hb2.block k hk
  have far : ∀ k, k ≠ w.heap.size + 1 → (w7.setCell ⟨w.heap.size + 1, 0, none⟩ (.slice (some ⟨gg, 0, none⟩) o'.length cap')).heap[k]? = w7.heap[k]? := fun k hk => Below.heap_setCell w7 ⟨w.heap.size + 1, 0, none⟩ _ k hk
  have szs : (w7.setCell ⟨w.heap.size + 1, 0, none⟩ (.slice (some ⟨gg, 0, none⟩) o'.length cap')).heap.size = w7.heap.size := World.size_setCell _ _ _
  have cellsRow : ∀ r, rv.ownBlock = some r → ∃ cs t f, W.heap[r]? = some (.cells cs t f) := fun r hr => by
    rcases hrow.2 with ⟨h1, -⟩ | ⟨g, cap, cur, h1, r2, r3, -⟩
    · rw [h1] at hr; cases hr
    · rw [h1] at hr
      obtain rfl : g = r := by simpa [Value.ownBlock] using hr
      exact ⟨_, _, _, r3⟩
  have ggn : gg ∉ O := by
    rcases hat with h | h
    · exact hnot gg h
    · intro hk; have := hOlt gg hk; omega
  have gg3 : w.heap.size + 3 ≤ gg := by
    rcases hat with h | h
    · exact (hlt gg h).1
    · omega
  refine And.intro ⟨by rw [szs]; exact z3, ?_⟩ (And.intro ⟨by rw [szs]; exact z3, ?_⟩ ⟨⟨o', .slice (some ⟨gg, 0, none⟩) o'.length cap', by rw [List.length_append]; exact he, ?_, ?_, ?_⟩, hF.far, ?_, ?_, by rw [szs]; omega, fun k hk => by rw [szs]; exact Nat.lt_of_lt_of_le (hOlt k hk) z3⟩)
  · intro k q hk hq
    have hkl := (Array.getElem?_eq_some_iff.1 hk).1
    rw [far k (fun e => by subst e; rw [ho] at hk; obtain rfl := Option.some.inj hk; cases hq), key k hkl (fun h => by obtain ⟨cs, t, f, hc⟩ := cellsRow k h; rw [hc] at hk; obtain rfl := Option.some.inj hk; cases hq)]
    exact hk
  · intro k hk
    rcases List.mem_append.1 hk with h | h
    · have h' : k = w.heap.size + 2 ∨ k = b := by simpa using h
      rw [far k (by omega), key k (by omega) (fun hr => by have := (hlt k hr).1; omega)]
    · have := hF.far k h
      rw [far k (by omega), key k (hOlt k h) (fun hr => hnot k hr h)]
  · have e1 : w7.heap[w.heap.size + 1]? = some (.cells #[ov] 23) := (key _ (by omega) (fun hr => by have := (hlt _ hr).1; omega)).trans ho
    exact heap_setCell_same w7 (w.heap.size + 1) 0 _ 23 _ e1
  · exact own_block h7 (fun g hg => far g (fun e => by
      have hg' : gg = g := by simpa [Value.ownBlock] using hg
      omega))
  · intro g hg
    have hg' : gg = g := by simpa [Value.ownBlock] using hg
    exact hg' ▸ ggn
  · rw [far _ (by omega), key _ (by omega) (fun hr => by have := (hlt _ hr).1; omega)]; exact hF.box
  · refine hF.below.trans ⟨?_, ?_, ?_, by rw [szs]; exact z3, fun k hk => ?_⟩
    · exact (g7.os.trans hb2.os)
    · exact (g7.tape.trans hb2.tape)
    · exact (g7.output.trans hb2.output)
    · rw [far k (by omega), key k (by omega) (fun hr => by have := (hlt k hr).1; omega)]
end Go.Proofs.YtldjiieckddhkaaGreatDoor
