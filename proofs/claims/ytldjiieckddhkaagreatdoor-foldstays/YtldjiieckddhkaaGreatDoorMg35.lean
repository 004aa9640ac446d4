/- A range over a function whose iterator writes memory of its own (blocks O, which grow), and whose body never leaves the loop. | fold.steps: the values ahead of each part, and where they lie. -/
import Derived.Test.YtldjiieckddhkaaGreatDoorMg31
import Derived.Test.YtldjiieckddhkaaGreatDoorRkW
namespace Go.Proofs.YtldjiieckddhkaaGreatDoor
open Go.RowKit Go.Shelf
/-- these blocks are kept -/
structure OwnK (O : List Nat) (A B : World) : Prop where
  size : A.heap.size ≤ B.heap.size
  block : ∀ k ∈ O, B.heap[k]? = A.heap[k]?
theorem OwnK.refl (O : List Nat) (A : World) : OwnK O A A := ⟨Nat.le_refl _, fun _ _ => rfl⟩
theorem OwnK.trans {O : List Nat} {A B C : World} (h : OwnK O A B) (k : OwnK O B C) : OwnK O A C := ⟨Nat.le_trans h.size k.size, fun i hi => (k.block i hi).trans (h.block i hi)⟩
theorem OwnK.mono {O O' : List Nat} {A B : World} (h : OwnK O A B) (hs : ∀ k ∈ O', k ∈ O) : OwnK O' A B := ⟨h.size, fun k hk => h.block k (hs k hk)⟩
theorem OwnK.putObj {O : List Nat} {A : World} {l : Nat} (o : Obj) (hl : l ∉ O) : OwnK O A (A.putObj l o) := ⟨by simp [World.putObj], fun k hk => World.putObj_heap_other (fun e => hl (e ▸ hk))⟩
/-- what the caller's invariant must abide: all but the iterator's blocks and the walk's own books are kept -/
structure Chg (B0 : Nat) (O : List Nat) (A B : World) : Prop where
  os : B.os = A.os
  tape : B.tape = A.tape
  output : B.output = A.output
  size : A.heap.size ≤ B.heap.size
  block : ∀ k o, A.heap[k]? = some o → k ∉ O → (k < B0 ∨ o.isCells = true) → B.heap[k]? = some o
theorem Chg.of_keep {B0 : Nat} {O : List Nat} {A B : World} (h : KeepX O A B) : Chg B0 O A B :=
  ⟨h.os, h.tape, h.output, h.size, fun k _ hk ho _ => (h.block k (Array.getElem?_eq_some_iff.1 hk).1 ho).trans hk⟩
theorem Chg.putObj {B0 : Nat} {O : List Nat} {A : World} {l : Nat} {o : Obj} (o' : Obj) (hB : B0 ≤ l) (hl : A.heap[l]? = some o) (ho : o.isCells = false) : Chg B0 O A (A.putObj l o') :=
  ⟨rfl, rfl, rfl, by simp [World.putObj], fun k p hk _ hp => by
    by_cases e : k = l
    · subst e
      obtain rfl := Option.some.inj (hl.symm.trans hk)
      rcases hp with hp | hp
      · omega
      · rw [ho] at hp; cases hp
    · exact (World.putObj_heap_other e).trans hk⟩
/-- how the iterator's blocks may grow -/
def Grows (O O' : List Nat) (A B : World) : Prop := (∀ k ∈ O, k ∈ O') ∧ (∀ k ∈ O', k ∈ O ∨ (A.heap.size ≤ k ∧ k < B.heap.size))
variable {F : Fence} {n : Nat} {P : Program}
/-- the iterator's contract: its yields (Good: what it says of each), its own blocks, the blocks Kb that the body must keep -/
def SeqO {α : Type} (F : Fence) (n : Nat) (P : Program) (g : Nat) (lb : Array Value) (encs : α → Array Value) (Good : List α → α → List Nat → World → Prop) (Kb : List Nat) (S : List α → Prop) (w : World) : Prop :=
  ∀ (l : Nat) (J : List α → List Nat → World → Prop) (W : World), Below w.heap.size w W →
    (∀ pre O O' A B, J pre O A → KeepX O A B → Grows O O' A B → J pre O' B) →
    (∀ pre O x W1, J pre O W1 → Good pre x O W1 → YieldAt F (n - 1) P l (encs x) W1 fun e W' => e = .returned (.bool true) ∧ J (pre ++ [x]) O W' ∧ OwnK (Kb ++ O) W1 W') →
    J [] [] W →
    CallsIn F n P g (#[.func (.yield l) #[] #[]] ++ lb) W fun e W' => (∃ v, e = .returned v) ∧ ∃ xs O, S xs ∧ J xs O W'
def postO {α : Type} (Kb : List Nat) (I : List α → List Nat → World → Prop) (xs : List α) (O : List Nat) (W : World) : Exit → Act → World → Prop
  | .normal, _, W' => KeepsOthers W W' ∧ OwnK (Kb ++ O) W W' ∧ I xs O W'
  | _, _, _ => False
theorem wpIn_rangeFunc_O {α : Type} {g : Operand} {ps : Array Tmp} {assign body : Code} {Q : Exit → Act → World → Prop} {a : Act} {w : World}
    (hro : F.round = none) (h1 : 1 ≤ n) {gf : Nat} {lb : Array Value} (hg : a.eval g = .func (.func gf) #[] lb) (hFg : F.fn gf) (eg : ∀ args w, (callFunc gf args).run P w = .ok (.enter gf args) w)
    {encs : α → Array Value} {Good : List α → α → List Nat → World → Prop} {Kb : List Nat} {S : List α → Prop} (hseq : SeqO F (n - 1) P gf lb encs Good Kb S w)
    (hKb : ∀ k ∈ Kb, k < w.heap.size) (hGd : ∀ pre x O A B, Good pre x O A → OwnK O A B → Good pre x O B) (hps : ∀ x, (encs x).size = ps.size)
    (I : List α → List Nat → World → Prop) (hI : ∀ pre O O' A B, I pre O A → Chg w.heap.size O A B → Grows O O' A B → I pre O' B) (h0 : I [] [] w) (a₁ : α → Act)
    (hassign : ∀ (l : Nat) (x : α) (W : World) (K : Act → World → Prop), K (a₁ x) W →
      assign.wpIn (F.inRound l) (n - 1 - 1) P (Exit.then K (fun _ _ _ => False)) { tmps := (ps.zip (encs x)).foldl (fun t (p, v) => t.setIfInBounds p v) a.tmps, defers := [] } W)
    (hbody : ∀ (l : Nat) (pre : List α) (O : List Nat) (x : α) (W : World), I pre O W → Good pre x O W → body.wpIn (F.inRound l) (n - 1 - 1) P (postO Kb I (pre ++ [x]) O W) (a₁ x) W)
    (hdone : ∀ (D : Nat) (xs : List α) (O : List Nat) (W : World), w.heap.size ≤ D → S xs → I xs O W → W.heap[D]? = some (.deferred (some [])) → Q .normal { a with defers := { target := .collected D, args := #[] } :: a.defers } W) :
    (Code.rangeFunc g ps assign body).wpIn F n P Q a w := by
  refine wpIn_rangeFunc ?_
  intro fn hfn
  rw [hro]
  obtain ⟨rec, hrec⟩ : ∃ rec : LoopState → Option Code → Loop, rec = fun st pe => { state := st, pending := pe, fn, tmps := a.tmps, params := ps, assign, body, defers := w.heap.size } := ⟨_, rfl⟩
  obtain ⟨W1, hW1⟩ : ∃ W1, (w.alloc (.deferred (some []))).alloc (.loop (rec .ready none)) = W1 := ⟨_, rfl⟩
  have hL1 : W1.heap[w.heap.size + 1]? = some (.loop (rec .ready none)) := by
    rw [← hW1]; have := World.alloc_heap_new (w.alloc (.deferred (some []))) (.loop (rec .ready none)); rwa [World.size_alloc] at this
  have hK1 : W1.heap[w.heap.size]? = some (.deferred (some [])) := by
    rw [← hW1]; exact (Below.heap_alloc _ _ _ (by simp)).trans (World.alloc_heap_new w _)
  have hb1 : Below w.heap.size w W1 := by
    rw [← hW1]; exact ((Below.refl _ w).alloc (Nat.le_refl _) _).alloc (by simp) _
  have hI1 : I [] [] W1 := hI _ _ _ _ _ h0 (Chg.of_keep (KeepX.of_below hb1)) ⟨fun _ h => h, fun _ h => .inl h⟩
  refine ⟨w.heap.size + 1, [{ target := .collected w.heap.size, args := #[] }], W1, { target := .fn (.func gf) lb, args := #[.func (.yield (w.heap.size + 1)) #[] #[]] }, W1, gf,
    #[.func (.yield (w.heap.size + 1)) #[] #[]] ++ lb, W1, ?_, ?_, ?_, ?_, fun _ => h1, ?_⟩
  · rw [← hW1, hrec]; exact run_enterLoop_outer _ _ _ _ _
  · simp only [resolve, hg]
    simp [go_sem]
  · intro f' hf'; simp [Target.leads] at hf'; subst hf'; exact hFg
  · simp [invoke, go_sem, eg]
  · refine (hseq (w.heap.size + 1)
      (fun pre O W => I pre O W ∧ W.heap[w.heap.size + 1]? = some (.loop (rec .ready none)) ∧ W.heap[w.heap.size]? = some (.deferred (some [])) ∧ w.heap.size + 1 ∉ O ∧ w.heap.size ∉ O)
      W1 hb1 ?_ ?_ ⟨hI1, hL1, hK1, List.not_mem_nil, List.not_mem_nil⟩).mono ?_
    · rintro pre O O' A B ⟨hi, hl, hk, n1, n2⟩ hx hgr
      have s1 := (Array.getElem?_eq_some_iff.1 hl).1
      have s2 := (Array.getElem?_eq_some_iff.1 hk).1
      exact ⟨hI _ _ _ _ _ hi (Chg.of_keep hx) hgr, (hx.block _ s1 n1).trans hl, (hx.block _ s2 n2).trans hk,
        fun h => (hgr.2 _ h).elim n1 (fun h => by have := h.1; omega), fun h => (hgr.2 _ h).elim n2 (fun h => by have := h.1; omega)⟩
    · rintro pre O x W ⟨hi, hl, hk, n1, n2⟩ hgd
      have hlt : w.heap.size + 1 < W.heap.size := (Array.getElem?_eq_some_iff.1 hl).1
      have hn : w.heap.size + 1 ∉ Kb ++ O := fun h => (List.mem_append.1 h).elim (fun h => by have := hKb _ h; omega) n1
      have hy := run_yield (P := P) (args := encs x) hl (by rw [hrec]; exact hps x)
      rw [hrec] at hy
      refine ⟨fn, _, assign, body, hy, roundIn_of_wpIn hfn (hassign _ x W _ ⟨_, run_beginRound hl (by rw [hrec]), ?_⟩)⟩
      have hl2 : (W.putObj (w.heap.size + 1) (.loop { rec .ready none with state := .busy })).heap[w.heap.size + 1]? = some (.loop { rec .ready none with state := .busy }) := World.putObj_heap_same hlt
      have hk2 : (W.putObj (w.heap.size + 1) (.loop { rec .ready none with state := .busy })).heap[w.heap.size]? = some (.deferred (some [])) := (World.putObj_heap_other (by omega)).trans hk
      have hw2 : OwnK (Kb ++ O) W (W.putObj (w.heap.size + 1) (.loop { rec .ready none with state := .busy })) := OwnK.putObj _ hn
      have same : ∀ A B : World, Grows O O A B := fun _ _ => ⟨fun _ h => h, fun _ h => .inl h⟩
      refine wpIn_mono (hbody _ pre O x _ (hI _ _ _ _ _ hi (Chg.putObj _ (by omega) hl rfl) (same _ _)) (hGd _ _ _ _ _ hgd (hw2.mono fun k hk => List.mem_append_right _ hk))) ?_
      rintro e a3 W3 hp
      cases e with
      | normal =>
        obtain ⟨hk3, hkp3, hi3⟩ := hp
        have hl3 := hk3.same _ _ hl2 rfl
        have hr := run_endRound (P := P) none hl3
        rw [hrec] at hr
        refine ⟨_, _, hr, rfl, ⟨hI _ _ _ _ _ hi3 (Chg.putObj _ (by omega) hl3 rfl) (same _ _), ?_, (World.putObj_heap_other (by omega)).trans (hk3.same _ _ hk2 rfl), n1, n2⟩, (hw2.trans hkp3).trans (OwnK.putObj _ hn)⟩
        rw [hrec]
        exact World.putObj_heap_same (Array.getElem?_eq_some_iff.1 hl3).1
      | ret => exact hp.elim
      | exit id => exact hp.elim
      | goto t => exact hp.elim
      | panic ch => exact hp.elim
      | outgrown => exact hp.elim
    · rintro e W2 ⟨⟨v, rfl⟩, xs, O, hS, hi, hl, hk, n1, n2⟩
      exact ⟨none, _, by have := run_endLoop (P := P) hl (by rw [hrec]; simp); rw [hrec] at this; exact this, hdone _ xs O _ (Nat.le_refl _) hS (hI _ _ _ _ _ hi (Chg.putObj _ (by omega) hl rfl) ⟨fun _ h => h, fun _ h => .inl h⟩) ((World.putObj_heap_other (by omega)).trans hk)⟩
end Go.Proofs.YtldjiieckddhkaaGreatDoor
namespace Go.Proofs.YtldjiieckddhkaaGreatDoor
open Go.RowKit Go.Shelf Go.Sort
abbrev Sp := Nat × Nat
def spStep (p : Pt) (i : Nat) (st : List Sp) : List Sp :=
  st.take (st.length - takes p) ++ [((match st.drop (st.length - takes p) with | a :: _ => a.1 | [] => i), i)]
def spAt (x : List Pt) : Nat → List Sp
  | 0 => []
  | k + 1 => match x[k]? with
    | some p => spStep p k (spAt x k)
    | none => spAt x k
def onAt (x : List Pt) (k : Nat) : List Sp := match x[k]? with
  | some p => (spAt x k).drop ((spAt x k).length - takes p)
  | none => []
theorem spStep_length {p : Pt} {i : Nat} {st : List Sp} : (spStep p i st).length = st.length - takes p + 1 := by
  unfold spStep
  rw [List.length_append, List.length_take, Nat.min_eq_left (Nat.sub_le _ _)]; rfl
theorem spAt_succ {x : List Pt} {k : Nat} {p : Pt} (h : x[k]? = some p) : spAt x (k + 1) = spStep p k (spAt x k) := by
  show (match x[k]? with | some p => spStep p k (spAt x k) | none => spAt x k) = _
  rw [h]
theorem onAt_eq {x : List Pt} {k : Nat} {p : Pt} (h : x[k]? = some p) : onAt x k = (spAt x k).drop ((spAt x k).length - takes p) := by
  unfold onAt; rw [h]
theorem spAt_wf {x : List Pt} (h : Wf x 0) : ∀ k, k ≤ x.length → Wf (x.drop k) (spAt x k).length
  | 0, _ => h
  | k + 1, hk => by
    have ih := spAt_wf h k (by omega)
    obtain ⟨p, hp⟩ : ∃ p, x[k]? = some p := ⟨_, List.getElem?_eq_getElem (by omega)⟩
    rw [spAt_succ hp, spStep_length]
    rw [List.drop_eq_getElem_cons (by omega)] at ih
    have e := (List.getElem?_eq_some_iff.1 hp).2
    rw [e] at ih
    exact ih.2
theorem spAt_takes {x : List Pt} (h : Wf x 0) {k : Nat} {p : Pt} (hp : x[k]? = some p) : takes p ≤ (spAt x k).length := by
  have hk := (List.getElem?_eq_some_iff.1 hp).1
  have ih := spAt_wf h k (by omega)
  rw [List.drop_eq_getElem_cons hk, (List.getElem?_eq_some_iff.1 hp).2] at ih
  exact ih.1
theorem onAt_length {x : List Pt} (h : Wf x 0) {k : Nat} {p : Pt} (hp : x[k]? = some p) : (onAt x k).length = takes p := by
  have := spAt_takes h hp
  rw [onAt_eq hp, List.length_drop]; omega
theorem spAt_le (x : List Pt) : ∀ k, (spAt x k).length ≤ k
  | 0 => Nat.le_refl _
  | k + 1 => by
    have ih := spAt_le x k
    cases hp : x[k]? with
    | none => show (match x[k]? with | some p => spStep p k (spAt x k) | none => spAt x k).length ≤ _; rw [hp]; exact Nat.le_succ_of_le ih
    | some p => rw [spAt_succ hp, spStep_length]; omega
def spC (st : List Sp) : List Value := st.flatMap fun s => [.int .i64 (s.1 : Int), .int .i64 (s.2 : Int)]
theorem spC_cons (k : Sp) (l : List Sp) : spC (k :: l) = [.int .i64 (k.1 : Int), .int .i64 (k.2 : Int)] ++ spC l := rfl
theorem spC_length : ∀ st : List Sp, (spC st).length = st.length * 2
  | [] => rfl
  | k :: l => by rw [spC_cons, List.length_append, spC_length l]; show 2 + l.length * 2 = (l.length + 1) * 2; omega
theorem spC_append (a b : List Sp) : spC (a ++ b) = spC a ++ spC b := List.flatMap_append
theorem spC_take : ∀ (st : List Sp) (k : Nat), (spC st).take (k * 2) = spC (st.take k)
  | [], k => by simp [spC]
  | x :: l, 0 => by simp [spC]
  | x :: l, k + 1 => by
    rw [spC_cons, List.take_append, show ([.int .i64 (x.1 : Int), .int .i64 (x.2 : Int)] : List Value).length = 2 from rfl, show (k + 1) * 2 - 2 = k * 2 from by omega, spC_take l k, List.take_of_length_le (by show 2 ≤ _; omega)]; rfl
theorem spC_get : ∀ (st : List Sp) (i : Nat) (x), st[i]? = some x → (spC st)[i * 2]? = some (.int .i64 (x.1 : Int)) ∧ (spC st)[i * 2 + 1]? = some (.int .i64 (x.2 : Int))
  | [], i, x, h => by cases h
  | y :: l, 0, x, h => by
    obtain rfl := Option.some.inj (show some y = some x from h)
    exact ⟨rfl, rfl⟩
  | y :: l, i + 1, x, h => by
    have := spC_get l i x h
    rw [show (i + 1) * 2 = i * 2 + 2 from by omega]
    exact this
/-- a slice that reads as spans, its block among O -/
def SLs (W : World) (v : Value) (l : List Sp) (O : List Nat) : Prop :=
  ∃ a b off cap, v = .slice a l.length cap ∧ (0 < l.length → b ∈ O ∧ b < W.heap.size ∧ a = some ⟨b, off, none⟩) ∧ ∀ i s, l[i]? = some s → W.cell? ⟨b, off + i * 2, none⟩ = some (.int .i64 (s.1 : Int)) ∧ W.cell? ⟨b, off + i * 2 + 1, none⟩ = some (.int .i64 (s.2 : Int))
theorem SLs.own {A B : World} {v : Value} {l : List Sp} {O : List Nat} (h : SLs A v l O) (hk : OwnK O A B) : SLs B v l O := by
  obtain ⟨a, b, off, cap, e, h1, h2⟩ := h
  refine ⟨a, b, off, cap, e, fun hl => ⟨(h1 hl).1, Nat.lt_of_lt_of_le (h1 hl).2.1 hk.size, (h1 hl).2.2⟩, fun i s hs => ?_⟩
  have hb := hk.block b (h1 (Nat.lt_of_le_of_lt (Nat.zero_le _) (List.getElem?_eq_some_iff.1 hs).1)).1
  rw [World.cell?_of_block (a := ⟨b, _, none⟩) hb, World.cell?_of_block (a := ⟨b, _, none⟩) hb]
  exact h2 i s hs
set_option maxRecDepth 100000 in
theorem sp_from {w : World} {base : Nat} {v : Value} {st : List Sp} {O : List Nat} (h : w.ownsRow base 79 2 v st.length (spC st)) (F : Nat) (hF : F ≤ st.length) (hO : ∀ g, v.ownBlock = some g → g ∈ O) :
    ∃ ov, (∀ W, (Instr.slice 77 v (some (.int .i64 (F : Int))) none none).run Tryz.prog W = .ok ov W) ∧ SLs w ov (st.drop F) O := by
  rcases h.2 with ⟨rfl, h0⟩ | ⟨g, cap, cur, rfl, hb, hg, hn, hm, hc, ht⟩
  · have hl : st = [] := List.eq_nil_of_length_eq_zero h0
    subst hl
    obtain rfl : F = 0 := by simpa using hF
    exact ⟨.slice none 0 0, fun W => by simp [go_sem], none, 0, 0, 0, rfl, fun h => absurd h (Nat.lt_irrefl 0), fun i x hx => by cases hx⟩
  · have i1 : (F : Int) ≤ (st.length : Int) := by omega
    have i2 : (st.length : Int) ≤ (cap : Int) := by omega
    have i0 : (0 : Int) ≤ (F : Int) := by omega
    by_cases e : cap = F
    · refine ⟨.slice (some ⟨g, 0, none⟩) (st.length - F) (cap - F), fun W => by simp [go_sem, *], ?_⟩
      have : st.drop F = [] := List.drop_eq_nil_of_le (by omega)
      rw [this]
      exact ⟨_, g, 0, _, by rw [show st.length - F = 0 from by omega]; rfl, fun h => absurd h (Nat.lt_irrefl 0), fun i x hx => by cases hx⟩
    · refine ⟨.slice (some ⟨g, F * 2, none⟩) (st.length - F) (cap - F), fun W => by simp [go_sem, *], _, g, F * 2, _, by rw [List.length_drop], fun _ => ⟨hO g rfl, (Array.getElem?_eq_some_iff.1 hg).1, rfl⟩, fun i x hx => ?_⟩
      rw [List.getElem?_drop] at hx
      have hlt : F + i < st.length := (List.getElem?_eq_some_iff.1 hx).1
      obtain ⟨k0, k1⟩ := spC_get st (F + i) x hx
      have key : ∀ j u, (spC st)[j]? = some u → w.cell? ⟨g, j, none⟩ = some u := fun j u hu => by
        rw [h.cellAt j (by have := (List.getElem?_eq_some_iff.1 hu).1; rw [spC_length] at this; omega)]; exact hu
      rw [show F * 2 + i * 2 = (F + i) * 2 from by omega]
      exact ⟨key _ _ k0, key _ _ k1⟩
set_option maxRecDepth 100000 in
theorem sp_to {w : World} {base : Nat} {v : Value} {st : List Sp} (h : w.ownsRow base 79 2 v st.length (spC st)) (F : Nat) (hF : F ≤ st.length) :
    ∃ a cap, (∀ W, (Instr.slice 77 v none (some (.int .i64 (F : Int))) none).run Tryz.prog W = .ok (.slice a F cap) W) ∧ w.ownsRow base 79 2 (.slice a F cap) F (spC (st.take F)) ∧ (Value.slice a F cap).ownBlock = v.ownBlock := by
  obtain ⟨a, cap, rfl, hc⟩ := own_form3 h
  refine ⟨a, cap, fun W => ?_, by rw [← spC_take]; exact own_takeN h F hF, ?_⟩
  · have i1 : (F : Int) ≤ (cap : Int) := by omega
    have i0 : (0 : Int) ≤ (F : Int) := by omega
    have i3 : ¬ cap < F := by omega
    rcases h.2 with ⟨h1, h0⟩ | ⟨g, cap', cur, h1, -⟩
    · injection h1 with e1 e2 e3
      subst e1 e3
      obtain rfl : F = 0 := by omega
      simp [go_sem]
    · injection h1 with e1 e2 e3
      subst e1 e3
      simp [go_sem, *]
  · cases a <;> rfl
theorem in79 : (Tryz.prog.info? 79).map (fun i => (i.zero, i.size, i.bytes)) = some (some (.agg #[.int .i64 0, .int .i64 0]), 2, 16) := by kernel_rfl
/-- a row is as it was where its block is -/
theorem own_block {w w' : World} {base e size n : Nat} {v : Value} {xs : List Value} (h : w.ownsRow base e size v n xs) (hb : ∀ g, v.ownBlock = some g → w'.heap[g]? = w.heap[g]?) : w'.ownsRow base e size v n xs := by
  refine ⟨h.1, ?_⟩
  rcases h.2 with h1 | ⟨g, cap, cur, h1, r2, r3, r4, r5, r6, r7⟩
  · exact .inl h1
  · subst h1
    exact .inr ⟨g, cap, cur, rfl, r2, (hb g rfl).trans r3, r4, r5, r6, r7⟩
end Go.Proofs.YtldjiieckddhkaaGreatDoor
