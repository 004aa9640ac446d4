/- The book's CopyImage: its walk. -/
import Derived.Test.YtlckedionmgjjaaDoorCpI
namespace Go.Proofs.YtlckedionmgjjaaDoor
open Go.RowKit
def acycB (ops : Array Oper) : Bool := (List.range ops.size).all fun i => ((ops[i]?).map fun o => o.after.all fun e => decide (e.on < i)).getD true
theorem all_listed {md : Region.Mode} {ops : Array Oper} {listed : Array Bool} (hac : acycB ops = true) (h : Region.ready md ops listed = []) (hsz : listed.size = ops.size) : ∀ j, j < ops.size → listed.getD j false = true := by
  intro j
  induction j using Nat.strongRecOn with
  | ind j ih =>
    intro hj
    cases hl : listed.getD j false with
    | true => rfl
    | false =>
      have ho : ops[j]? = some ops[j] := Array.getElem?_eq_getElem hj
      have hm : j ∈ Region.ready md ops listed := mem_ready.2 ⟨by
        have h' : j < listed.size := by omega
        simp [h'] at hl ⊢; exact hl, _, ho, fun e he _ => by
        unfold acycB at hac
        have h1 := List.all_eq_true.1 hac j (List.mem_range.2 hj)
        rw [ho] at h1
        simp only [Option.map_some, Option.getD_some, Array.all_eq_true_iff_forall_mem] at h1
        have h2 := of_decide_eq_true (h1 e he)
        exact ih e.on h2 (by omega)⟩
      rw [h] at hm
      cases hm
theorem dep_of {md : Region.Mode} {ops : Array Oper} {listed : Array Bool} {i : Nat} (hi : i ∈ Region.ready md ops listed) (j : Nat) (hw : waitsB md ops i j = true) : listed.getD j false = true := by
  obtain ⟨-, o, ho, hall⟩ := mem_ready.1 hi
  unfold waitsB at hw
  rw [ho] at hw
  simp only [Option.map_some, Option.getD_some, Array.any_eq_true'] at hw
  obtain ⟨e, he, hb⟩ := hw
  rw [Bool.and_eq_true] at hb
  have h1 := hall e he hb.1
  have h2 : e.on = j := by simpa using hb.2
  rw [h2] at h1
  exact h1
theorem dep_all {md : Region.Mode} {ops : Array Oper} {listed : Array Bool} {i : Nat} (hi : i ∈ Region.ready md ops listed) (n : Nat) (h : (List.range n).all (fun j => waitsB md ops i j) = true) : ∀ j, j < n → listed.getD j false = true := fun j hj =>
  dep_of hi j (List.all_eq_true.1 h j (List.mem_range.2 hj))
theorem getD_up {listed : Array Bool} {j : Nat} (h : listed.getD j false = true) : listed.getD j true = true := by
  rcases Nat.lt_or_ge j listed.size with h' | h'
  · simp [h'] at h ⊢; exact h
  · simp [Array.getElem?_eq_none h'] at h
theorem own_set {w : World} {base e size n : Nat} {v : Value} {xs : List Value} (h : w.ownsRow base e size v n xs) (b o : Nat) (hb : b < base) (u : Value) : (w.setCell ⟨b, o, none⟩ u).ownsRow base e size v n xs := by
  refine ⟨h.1, ?_⟩
  rcases h.2 with h0 | ⟨g, cap, cur, hv, hg, hh, r⟩
  · exact .inl h0
  · exact .inr ⟨g, cap, cur, hv, hg, by rw [heap_setCell_other _ _ _ _ (by show g ≠ b; omega)]; exact hh, r⟩
theorem stI {P : Program} {ops : Array Oper} {Q : Exit → Act → World → Prop} (i : Nat) {d : Option Tmp} {o : Op} {t : TypeId} {p : String} {f : Array Edge} {a : Act} {w : World} {K : Act → World → Prop}
    (h : ∀ K' : Act → World → Prop, Shut (∀ a w, K a w → K' a w) → Oper.wp P ⟨d, o, t, p, f, none⟩ a w K' Q) (hi : ops[i]? = some ⟨d, o, t, p, f, none⟩ := by rfl) : wpOp P ops Q i K a w :=
  wpOp_step hi (fun K' hK => by rw [if_pos (by rfl)]; exact h K' hK)
structure Rows5 (base : Nat) (x : Img) (W : World) (a b c d e : Value) : Prop where
  ty : W.ownsRow base 3 1 a x.ty.length (intC x.ty)
  fi : W.ownsRow base 2 1 b x.fi.length (intC x.fi)
  ins : W.ownsRow base 3 1 c x.ins.length (intC x.ins)
  outs : W.ownsRow base 3 1 d x.outs.length (intC x.outs)
  cd : W.ownsRow base 38 4 e x.cd.length (inC x.cd)
theorem own_on {w w' : World} {base e size n : Nat} {v : Value} {xs : List Value} (h : w.ownsRow base e size v n xs) (hb : Below w.heap.size w w') : w'.ownsRow base e size v n xs :=
  h.kept (row := none) ⟨hb.os, hb.tape, hb.output, hb.size, fun k hk _ => hb.block k hk⟩ (by cases hv : v.ownBlock <;> simp)
theorem Rows5.on {base : Nat} {x : Img} {W W' : World} {a b c d e : Value} (h : Rows5 base x W a b c d e) (hb : Below W.heap.size W W') : Rows5 base x W' a b c d e :=
  ⟨own_on h.ty hb, own_on h.fi hb, own_on h.ins hb, own_on h.outs hb, own_on h.cd hb⟩
/-- an empty slice of one's own -/
def Emp (base e s : Nat) (W : World) (v : Value) : Prop := ∃ g, v = .slice (some ⟨g, 0, none⟩) 0 0 ∧ W.ownsRow base e s (.slice (some ⟨g, 0, none⟩) 0 0) 0 []
theorem Emp.on {base e s : Nat} {W W' : World} {v : Value} (h : Emp base e s W v) (hb : Below W.heap.size W W') : Emp base e s W' v := by
  obtain ⟨g, hv, ho⟩ := h
  exact ⟨g, hv, own_on ho hb⟩
/-- what each operation of the copying leaves in its slot -/
def FC (base : Nat) (S : ByteArray) (x : Img) (j : Nat) (W : World) (v : Value) : Prop :=
  match j with
  | 2 => Emp base 3 1 W v
  | 10 => Emp base 3 1 W v
  | 14 => Emp base 3 1 W v
  | 6 => Emp base 2 1 W v
  | 18 => Emp base 38 4 W v
  | 5 => W.ownsRow base 3 1 v x.ty.length (intC x.ty)
  | 9 => W.ownsRow base 2 1 v x.fi.length (intC x.fi)
  | 13 => W.ownsRow base 3 1 v x.ins.length (intC x.ins)
  | 17 => W.ownsRow base 3 1 v x.outs.length (intC x.outs)
  | 21 => W.ownsRow base 38 4 v x.cd.length (inC x.cd)
  | 22 => ∃ a b c d e, v = .agg #[.string S, a, b, c, d, e] ∧ Rows5 base x W a b c d e
  | _ => True
theorem FC.on {base : Nat} {S : ByteArray} {x : Img} {j : Nat} {W W' : World} {v : Value} (h : FC base S x j W v) (hb : Below W.heap.size W W') : FC base S x j W' v := by
  unfold FC at h ⊢
  split at h
  · exact Emp.on h hb
  · exact Emp.on h hb
  · exact Emp.on h hb
  · exact Emp.on h hb
  · exact Emp.on h hb
  · exact own_on h hb
  · exact own_on h hb
  · exact own_on h hb
  · exact own_on h hb
  · exact own_on h hb
  · obtain ⟨a, b, c, d, e, hv, hr⟩ := h
    exact ⟨a, b, c, d, e, hv, hr.on hb⟩
  · trivial
def upd (u : Nat → Value) (i : Nat) (v : Value) : Nat → Value := fun j => if j = i then v else u j
def actC (z : Nat) (S : ByteArray) (tv fv iv ov cv : Value) (u : Nat → Value) : Act :=
  { tmps := #[.agg #[.string S, tv, fv, iv, ov, cv], .pointer (some ⟨z, 0, none⟩), .pointer (some ⟨z + 1, 0, none⟩), .pointer (some ⟨z, 0, none⟩), .string S, u 2, .pointer (some ⟨z, 1, none⟩), tv, u 5, u 6, .pointer (some ⟨z, 2, none⟩), fv, u 9, u 10, .pointer (some ⟨z, 3, none⟩), iv, u 13, u 14, .pointer (some ⟨z, 4, none⟩), ov, u 17, u 18, .pointer (some ⟨z, 5, none⟩), cv, u 21, u 22], defers := [] }
def rdsC (j : Nat) : Bool := j == 0 || j == 1 || j == 3 || j == 4 || j == 7 || j == 8 || j == 11 || j == 12 || j == 15 || j == 16 || j == 19 || j == 20
/-- while it copies -/
structure PreC (w0 : World) (base z : Nat) (S : ByteArray) (tv fv iv ov cv : Value) (x : Img) (listed : Array Bool) (a : Act) (W : World) (u : Nat → Value) : Prop where
  act : a = actC z S tv fv iv ov cv u
  size : listed.size = 24
  reads : ∀ j, rdsC j = true → listed.getD j true = true
  last : listed.getD 23 false = false
  below : Below w0.heap.size w0 W
  facts : ∀ j, listed.getD j false = true → FC base S x j W (u j)
theorem PreC.next {w0 W W' : World} {base z : Nat} {S : ByteArray} {tv fv iv ov cv : Value} {x : Img} {listed : Array Bool} {a a' : Act} {u : Nat → Value} (h : PreC w0 base z S tv fv iv ov cv x listed a W u) (i : Nat) (v : Value) (h23 : i ≠ 23) (ha : a' = actC z S tv fv iv ov cv (upd u i v)) (hb : Below W.heap.size W W') (hF : FC base S x i W' v) : PreC w0 base z S tv fv iv ov cv x (listed.setIfInBounds i true) a' W' (upd u i v) := by
  refine ⟨ha, by simpa using h.size, fun j hj => ?_, by rw [getD_set_ne false h23]; exact h.last, h.below.trans (hb.mono h.below.size), fun j hj => ?_⟩
  · rw [set_getD]; split
    · rfl
    · exact h.reads j hj
  · unfold upd
    by_cases e : j = i
    · subst e; rw [if_pos rfl]; exact hF
    · rw [if_neg e]
      rw [getD_set_ne false (Ne.symm e)] at hj
      exact (h.facts j hj).on hb
set_option maxRecDepth 100000 in
set_option maxHeartbeats 3200000 in
theorem copy_any (nm tv fv iv ov cv : Value) (x : Img) (w : World) (hx : Im w nm tv fv iv ov cv x) (h1 : x.ty.length ≤ 17592186044416) (h2 : x.fi.length ≤ 17592186044416) (h3 : x.ins.length ≤ 17592186044416) (h4 : x.outs.length ≤ 17592186044416) (h5 : x.cd.length ≤ 4398046511104) :
    Calls Tryd.prog 6 #[.agg #[nm, tv, fv, iv, ov, cv]] w fun e w' => ∃ tv' fv' iv' ov' cv', e = .returned (.agg #[nm, tv', fv', iv', ov', cv']) ∧ w'.ownsRow (w.heap.size + 2) 3 1 tv' x.ty.length (intC x.ty) ∧ w'.ownsRow (w.heap.size + 2) 2 1 fv' x.fi.length (intC x.fi) ∧ w'.ownsRow (w.heap.size + 2) 3 1 iv' x.ins.length (intC x.ins) ∧ w'.ownsRow (w.heap.size + 2) 3 1 ov' x.outs.length (intC x.outs) ∧ w'.ownsRow (w.heap.size + 2) 38 4 cv' x.cd.length (inC x.cd) ∧ Below w.heap.size w w' := by
  obtain ⟨S, hS⟩ : ∃ S : ByteArray, S = ⟨x.name.toArray⟩ := ⟨_, rfl⟩
  have hnm : nm = .string S := by rw [hS]; exact hx.name
  subst hnm
  clear hS
  obtain ⟨w0, hw0⟩ : ∃ w0, w0 = ((w.alloc (.cells #[.string S, tv, fv, iv, ov, cv] 26)).alloc (.cells #[.string ⟨#[]⟩, .slice none 0 0, .slice none 0 0, .slice none 0 0, .slice none 0 0, .slice none 0 0] 26)).drew := ⟨_, rfl⟩
  have HX : Hid (Im w0 (.string S) tv fv iv ov cv x) := by
    rw [hw0]; exact hx.on ((((Below.refl _ _).alloc (Nat.le_refl _) _).alloc (by simp) _).drew)
  have B0 : Hid (Below w.heap.size w w0) := by rw [hw0]; exact ((((Below.refl _ _).alloc (Nat.le_refl _) _).alloc (by simp) _).drew)
  have X0 : Hid (w0.heap[w.heap.size]? = some (.cells #[.string S, tv, fv, iv, ov, cv] 26 (0, 0))) := by
    show _ = _
    rw [hw0]; show ((w.alloc _).alloc _).heap[w.heap.size]? = _; rw [heap_alloc_old _ _ (by simp), heap_alloc_new]
  have Z0 : Hid (w0.heap[w.heap.size + 1]? = some (.cells #[.string ⟨#[]⟩, .slice none 0 0, .slice none 0 0, .slice none 0 0, .slice none 0 0, .slice none 0 0] 26 (0, 0))) := by
    show _ = _
    rw [hw0]; show ((w.alloc _).alloc _).heap[w.heap.size + 1]? = _
    rw [show w.heap.size + 1 = (w.alloc (.cells #[.string S, tv, fv, iv, ov, cv] 26)).heap.size by simp, heap_alloc_new]
  have z0 : w0.heap.size = w.heap.size + 2 := by rw [hw0]; show ((w.alloc _).alloc _).heap.size = _; simp
  have c : ∀ j v, (#[Value.string S, tv, fv, iv, ov, cv] : Array Value)[j]? = some v → w0.cell? ⟨w.heap.size, j, none⟩ = some v := fun j v h => (Lib.cell_of_heap (j := j) X0.out).trans h
  have hSS : w0.cell? ⟨w.heap.size, 0, none⟩ = some (.string S) ∧ w0.cell? ⟨w.heap.size, 1, none⟩ = some tv ∧ w0.cell? ⟨w.heap.size, 2, none⟩ = some fv ∧ w0.cell? ⟨w.heap.size, 3, none⟩ = some iv ∧ w0.cell? ⟨w.heap.size, 4, none⟩ = some ov ∧ w0.cell? ⟨w.heap.size, 5, none⟩ = some cv := ⟨c 0 _ rfl, c 1 _ rfl, c 2 _ rfl, c 3 _ rfl, c 4 _ rfl, c 5 _ rfl⟩
  have HW := hide hw0
  clear hw0 hx c
  go_enter Tryd.func6, Tryd.ntmps6
  go_wp2_with fail
  refine region_L (S := fun W => W.cell? ⟨w.heap.size, 0, none⟩ = some (.string S) ∧ W.cell? ⟨w.heap.size, 1, none⟩ = some tv ∧ W.cell? ⟨w.heap.size, 2, none⟩ = some fv ∧ W.cell? ⟨w.heap.size, 3, none⟩ = some iv ∧ W.cell? ⟨w.heap.size, 4, none⟩ = some ov ∧ W.cell? ⟨w.heap.size, 5, none⟩ = some cv) (L := 23) (by kernel_rfl) ?_
  rw [← HW.out]
  refine tkL 0 (.pointer (some ⟨w.heap.size, 0, none⟩)) hSS ?_
  refine tkL 1 (.string S) hSS ?_
  refine tkL 3 (.pointer (some ⟨w.heap.size, 1, none⟩)) hSS ?_
  refine tkL 4 tv hSS ?_
  refine tkL 7 (.pointer (some ⟨w.heap.size, 2, none⟩)) hSS ?_
  refine tkL 8 fv hSS ?_
  refine tkL 11 (.pointer (some ⟨w.heap.size, 3, none⟩)) hSS ?_
  refine tkL 12 iv hSS ?_
  refine tkL 15 (.pointer (some ⟨w.heap.size, 4, none⟩)) hSS ?_
  refine tkL 16 ov hSS ?_
  refine tkL 19 (.pointer (some ⟨w.heap.size, 5, none⟩)) hSS ?_
  refine tkL 20 cv hSS ?_
  try simp only [Act.put, List.setIfInBounds_toArray, List.set_cons_zero, List.set_cons_succ]
  obtain ⟨base, hbs⟩ : ∃ base, base = w.heap.size + 2 := ⟨_, rfl⟩
  have HS : Hid (∀ W, Below (w.heap.size + 1) w0 W → W.cell? ⟨w.heap.size, 0, none⟩ = some (.string S) ∧ W.cell? ⟨w.heap.size, 1, none⟩ = some tv ∧ W.cell? ⟨w.heap.size, 2, none⟩ = some fv ∧ W.cell? ⟨w.heap.size, 3, none⟩ = some iv ∧ W.cell? ⟨w.heap.size, 4, none⟩ = some ov ∧ W.cell? ⟨w.heap.size, 5, none⟩ = some cv) := fun W hb => by
    have e : ∀ j, W.cell? ⟨w.heap.size, j, none⟩ = w0.cell? ⟨w.heap.size, j, none⟩ := fun j => hb.cell (p := ⟨w.heap.size, j, none⟩) (by show w.heap.size < w.heap.size + 1; omega)
    rw [e, e, e, e, e, e]; exact hSS
  have HB : Hid (∀ W, Below w0.heap.size w0 W → Below (w.heap.size + 1) w0 W) := fun W hb => hb.mono (by omega)
  refine wpL_inv (fun listed a W => (∃ u, PreC w0 base w.heap.size S tv fv iv ov cv x listed a W u) ∨ ((∀ j, j < 24 → listed.getD j true = true) ∧ (∃ u, a = actC w.heap.size S tv fv iv ov cv u) ∧ Below w.heap.size w W ∧ ∃ a b c d e, W.heap[w.heap.size + 1]? = some (.cells #[.string S, a, b, c, d, e] 26 (0, 0)) ∧ Rows5 base x W a b c d e)) ?_ ?_ _ _ _ _ (by decide +kernel) (.inl ⟨fun _ => undef, rfl, rfl, ?_, rfl, Below.refl _ _, ?_⟩)
  · intro listed a W i hI hi
    obtain ⟨hu, o, ho, hall⟩ := mem_ready.1 hi
    have hlt : i < 24 := (Array.getElem?_eq_some_iff.1 ho).1
    rcases hI with ⟨u, hP⟩ | ⟨hr, -⟩
    · have hbW : base ≤ W.heap.size := by have := hP.below.size; omega
      have hzW : w.heap.size + 1 ≤ W.heap.size := by omega
      have hXW := HX.out.on hP.below
      match i, hi with
      | 0, _ => exact absurd (hP.reads 0 rfl) (by rw [hu]; decide)
      | 1, _ => exact absurd (hP.reads 1 rfl) (by rw [hu]; decide)
      | 3, _ => exact absurd (hP.reads 3 rfl) (by rw [hu]; decide)
      | 4, _ => exact absurd (hP.reads 4 rfl) (by rw [hu]; decide)
      | 7, _ => exact absurd (hP.reads 7 rfl) (by rw [hu]; decide)
      | 8, _ => exact absurd (hP.reads 8 rfl) (by rw [hu]; decide)
      | 11, _ => exact absurd (hP.reads 11 rfl) (by rw [hu]; decide)
      | 12, _ => exact absurd (hP.reads 12 rfl) (by rw [hu]; decide)
      | 15, _ => exact absurd (hP.reads 15 rfl) (by rw [hu]; decide)
      | 16, _ => exact absurd (hP.reads 16 rfl) (by rw [hu]; decide)
      | 19, _ => exact absurd (hP.reads 19 rfl) (by rw [hu]; decide)
      | 20, _ => exact absurd (hP.reads 20 rfl) (by rw [hu]; decide)
      | 2, _ =>
        refine stI 2 (fun K hK => ?_)
        rw [hP.act]
        unfold actC
        go_simp
        refine hK.out _ _ ⟨fun _ => HS.out _ ((HB.out _ hP.below).alloc hzW _), .inl ⟨_, hP.next 2 _ (by decide) rfl ((Below.refl _ _).alloc (Nat.le_refl _) _) ⟨W.heap.size, rfl, World.ownsRow_lit (e := 3) (size := 1) W #[] 0 hbW (by decide) rfl⟩⟩⟩
      | 5, hi =>
        obtain ⟨g, hg, ho⟩ := hP.facts 2 (dep_of hi 2 (by kernel_rfl))
        obtain ⟨v', w', hr, hown, hb⟩ := copy_ints W base _ 22 3 Tryd.underlying22 info3 g ho tv x.ty (hXW.ty) h1 hbW
        refine stI 5 (fun K hK => ?_)
        rw [hP.act]
        refine wp_app _ _ 22 rfl _ _ v' w' (by exact hg) (by rfl) hr ?_
        exact hK.out _ _ ⟨fun _ => HS.out _ ((HB.out _ hP.below).trans (hb.mono hzW)), .inl ⟨_, hP.next 5 v' (by decide) rfl hb hown⟩⟩
      | 6, _ =>
        refine stI 6 (fun K hK => ?_)
        rw [hP.act]
        unfold actC
        go_simp
        refine hK.out _ _ ⟨fun _ => HS.out _ ((HB.out _ hP.below).alloc hzW _), .inl ⟨_, hP.next 6 _ (by decide) rfl ((Below.refl _ _).alloc (Nat.le_refl _) _) ⟨W.heap.size, rfl, World.ownsRow_lit (e := 2) (size := 1) W #[] 0 hbW (by decide) rfl⟩⟩⟩
      | 9, hi =>
        obtain ⟨g, hg, ho⟩ := hP.facts 6 (dep_of hi 6 (by kernel_rfl))
        obtain ⟨v', w', hr, hown, hb⟩ := copy_ints W base _ 23 2 Tryd.underlying23 info2 g ho fv x.fi (hXW.fi) h2 hbW
        refine stI 9 (fun K hK => ?_)
        rw [hP.act]
        refine wp_app _ _ 23 rfl _ _ v' w' (by exact hg) (by rfl) hr ?_
        exact hK.out _ _ ⟨fun _ => HS.out _ ((HB.out _ hP.below).trans (hb.mono hzW)), .inl ⟨_, hP.next 9 v' (by decide) rfl hb hown⟩⟩
      | 10, _ =>
        refine stI 10 (fun K hK => ?_)
        rw [hP.act]
        unfold actC
        go_simp
        refine hK.out _ _ ⟨fun _ => HS.out _ ((HB.out _ hP.below).alloc hzW _), .inl ⟨_, hP.next 10 _ (by decide) rfl ((Below.refl _ _).alloc (Nat.le_refl _) _) ⟨W.heap.size, rfl, World.ownsRow_lit (e := 3) (size := 1) W #[] 0 hbW (by decide) rfl⟩⟩⟩
      | 13, hi =>
        obtain ⟨g, hg, ho⟩ := hP.facts 10 (dep_of hi 10 (by kernel_rfl))
        obtain ⟨v', w', hr, hown, hb⟩ := copy_ints W base _ 22 3 Tryd.underlying22 info3 g ho iv x.ins (hXW.ins) h3 hbW
        refine stI 13 (fun K hK => ?_)
        rw [hP.act]
        refine wp_app _ _ 22 rfl _ _ v' w' (by exact hg) (by rfl) hr ?_
        exact hK.out _ _ ⟨fun _ => HS.out _ ((HB.out _ hP.below).trans (hb.mono hzW)), .inl ⟨_, hP.next 13 v' (by decide) rfl hb hown⟩⟩
      | 14, _ =>
        refine stI 14 (fun K hK => ?_)
        rw [hP.act]
        unfold actC
        go_simp
        refine hK.out _ _ ⟨fun _ => HS.out _ ((HB.out _ hP.below).alloc hzW _), .inl ⟨_, hP.next 14 _ (by decide) rfl ((Below.refl _ _).alloc (Nat.le_refl _) _) ⟨W.heap.size, rfl, World.ownsRow_lit (e := 3) (size := 1) W #[] 0 hbW (by decide) rfl⟩⟩⟩
      | 17, hi =>
        obtain ⟨g, hg, ho⟩ := hP.facts 14 (dep_of hi 14 (by kernel_rfl))
        obtain ⟨v', w', hr, hown, hb⟩ := copy_ints W base _ 22 3 Tryd.underlying22 info3 g ho ov x.outs (hXW.outs) h4 hbW
        refine stI 17 (fun K hK => ?_)
        rw [hP.act]
        refine wp_app _ _ 22 rfl _ _ v' w' (by exact hg) (by rfl) hr ?_
        exact hK.out _ _ ⟨fun _ => HS.out _ ((HB.out _ hP.below).trans (hb.mono hzW)), .inl ⟨_, hP.next 17 v' (by decide) rfl hb hown⟩⟩
      | 18, _ =>
        refine stI 18 (fun K hK => ?_)
        rw [hP.act]
        unfold actC
        go_simp
        refine hK.out _ _ ⟨fun _ => HS.out _ ((HB.out _ hP.below).alloc hzW _), .inl ⟨_, hP.next 18 _ (by decide) rfl ((Below.refl _ _).alloc (Nat.le_refl _) _) ⟨W.heap.size, rfl, World.ownsRow_lit (e := 38) (size := 4) W #[] 0 hbW (by decide) rfl⟩⟩⟩
      | 21, hi =>
        obtain ⟨g, hg, ho⟩ := hP.facts 18 (dep_of hi 18 (by kernel_rfl))
        obtain ⟨v', w', hr, hown, hb⟩ := copy_ins W base _ g ho cv x.cd hXW.cd h5 hbW
        refine stI 21 (fun K hK => ?_)
        rw [hP.act]
        refine wp_app _ _ 24 rfl _ _ v' w' (by exact hg) (by rfl) hr ?_
        exact hK.out _ _ ⟨fun _ => HS.out _ ((HB.out _ hP.below).trans (hb.mono hzW)), .inl ⟨_, hP.next 21 v' (by decide) rfl hb hown⟩⟩
      | 22, hi =>
        have f5 := hP.facts 5 (dep_of hi 5 (by kernel_rfl))
        have f9 := hP.facts 9 (dep_of hi 9 (by kernel_rfl))
        have f13 := hP.facts 13 (dep_of hi 13 (by kernel_rfl))
        have f17 := hP.facts 17 (dep_of hi 17 (by kernel_rfl))
        have f21 := hP.facts 21 (dep_of hi 21 (by kernel_rfl))
        obtain ⟨a1, a2, ha, -⟩ := owns_slice f5
        obtain ⟨b1, b2, hb, -⟩ := owns_slice f9
        obtain ⟨c1, c2, hc, -⟩ := owns_slice f13
        obtain ⟨d1, d2, hd, -⟩ := owns_slice f17
        obtain ⟨e1, e2, he, -⟩ := owns_slice f21
        refine stI 22 (fun K hK => ?_)
        rw [hP.act]
        unfold actC
        rw [ha, hb, hc, hd, he]
        go_simp
        refine hK.out _ _ ⟨fun _ => HS.out _ (HB.out _ hP.below), .inl ⟨_, hP.next 22 (.agg #[.string S, u 5, u 9, u 13, u 17, u 21]) (by decide) ?_ (Below.refl _ _) ⟨_, _, _, _, _, rfl, f5, f9, f13, f17, f21⟩⟩⟩
        unfold actC upd
        rw [← ha, ← hb, ← hc, ← hd, ← he]
        rfl
      | 23, hi =>
        obtain ⟨ra, rb, rc, rd, re, hu22, hR⟩ := hP.facts 22 (dep_of hi 22 (by kernel_rfl))
        have hal := dep_all hi 23 (by kernel_rfl)
        have hZ := (hP.below.block (w.heap.size + 1) (by omega)).trans Z0.out
        have hbw : Below w.heap.size w W := B0.out.trans (hP.below.mono (by omega))
        obtain ⟨q0, q1, q2, q3, q4, q5, qf⟩ := six hZ
        have hR' := hR
        obtain ⟨a1, a2, rfl, -⟩ := owns_slice hR.ty
        obtain ⟨b1, b2, rfl, -⟩ := owns_slice hR.fi
        obtain ⟨c1, c2, rfl, -⟩ := owns_slice hR.ins
        obtain ⟨d1, d2, rfl, -⟩ := owns_slice hR.outs
        obtain ⟨e1, e2, rfl, -⟩ := owns_slice hR.cd
        refine stI 23 (fun K hK => ?_)
        rw [hP.act]
        unfold actC
        rw [hu22]
        go_simp
        refine hK.out _ _ ⟨fun h => absurd rfl h, .inr ⟨fun j hj => ?_, ⟨u, by unfold actC; rw [hu22]⟩, below6 (Z := w.heap.size + 1) hbw (by omega), _, _, _, _, _, heap6 (Z := w.heap.size + 1) hZ, owns6 hR'.ty (by omega), owns6 hR'.fi (by omega), owns6 hR'.ins (by omega), owns6 hR'.outs (by omega), owns6 hR'.cd (by omega)⟩⟩
        rw [set_getD]
        split
        · rfl
        · exact getD_up (hal j (by omega))
      | k + 24, _ => omega
    · have h9 := hr i hlt
      rw [h9] at hu; cases hu
  · intro listed a W hI h0
    rcases hI with ⟨u, hP⟩ | ⟨-, ⟨u, rfl⟩, hbW, ra, rb, rc, rd, re, hh, hR⟩
    · have h9 := all_listed (by kernel_rfl) h0 hP.size 23 (by decide)
      rw [hP.last] at h9; cases h9
    · obtain ⟨q0, q1, q2, q3, q4, q5, -⟩ := six hh
      unfold actC
      have HR := hide hR
      have HBW := hide hbW
      clear hR hbW hh
      go_wp2
      refine bodyPost_ret (v := .agg #[.string S, ra, rb, rc, rd, re]) (by simp [results, Tryd.results6, go_sem, q0, q1, q2, q3, q4, q5]) rfl ⟨ra, rb, rc, rd, re, rfl, ?_, ?_, ?_, ?_, ?_, HBW.out⟩
      · rw [← hbs]; exact HR.out.ty
      · rw [← hbs]; exact HR.out.fi
      · rw [← hbs]; exact HR.out.ins
      · rw [← hbs]; exact HR.out.outs
      · rw [← hbs]; exact HR.out.cd
  · intro j hj
    unfold rdsC at hj
    simp only [Bool.or_eq_true, beq_iff_eq] at hj
    rcases hj with (((((((((((rfl | rfl) | rfl) | rfl) | rfl) | rfl) | rfl) | rfl) | rfl) | rfl) | rfl) | rfl) <;> rfl
  · intro j hj
    match j, hj with
    | 0, hj => trivial
    | 1, hj => trivial
    | 2, hj => exact absurd hj (by decide +kernel)
    | 3, hj => trivial
    | 4, hj => trivial
    | 5, hj => exact absurd hj (by decide +kernel)
    | 6, hj => exact absurd hj (by decide +kernel)
    | 7, hj => trivial
    | 8, hj => trivial
    | 9, hj => exact absurd hj (by decide +kernel)
    | 10, hj => exact absurd hj (by decide +kernel)
    | 11, hj => trivial
    | 12, hj => trivial
    | 13, hj => exact absurd hj (by decide +kernel)
    | 14, hj => exact absurd hj (by decide +kernel)
    | 15, hj => trivial
    | 16, hj => trivial
    | 17, hj => exact absurd hj (by decide +kernel)
    | 18, hj => exact absurd hj (by decide +kernel)
    | 19, hj => trivial
    | 20, hj => trivial
    | 21, hj => exact absurd hj (by decide +kernel)
    | 22, hj => exact absurd hj (by decide +kernel)
    | 23, hj => trivial
    | k + 24, hj => trivial
end Go.Proofs.YtlckedionmgjjaaDoor
