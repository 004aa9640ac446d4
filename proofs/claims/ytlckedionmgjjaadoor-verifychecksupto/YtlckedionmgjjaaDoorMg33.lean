/- An image among the arguments, opened, with its bulk. | VerifyChecks' walk. | VerifyChecks' walk, as the row asks for it. -/
import Derived.Test.YtlckedionmgjjaaDoorMg32
import Derived.Test.YtlckedionmgjjaaDoorRows
import Derived.Test.YtlckedionmgjjaaDoorMg31
namespace Go.Proofs.YtlckedionmgjjaaDoor
open Go.ChangeShapes Go.WideShapes Go.ChangeAt Go.RowKit
theorem bulk_one {H : Type} (d : DataW H) : 1 ≤ Rows.uptoBulk d := by
  cases d with
  | lit x => cases x <;> simp [Rows.uptoBulk]
  | _ => simp [Rows.uptoBulk]
theorem bulk_ge {H : Type} : ∀ (l : List (DataW H)), l.length ≤ Rows.uptoBulkAll l
  | [] => Nat.zero_le _
  | d :: r => by
    have h1 := bulk_one d
    have h2 := bulk_ge r
    simp only [Rows.uptoBulkAll, List.length_cons]
    omega
theorem bulk_items {H : Type} {d : DataW H} {len : Nat} (h : (d = .nil ∧ len = 0) ∨ ∃ el sp, d = .slice el sp ∧ el.length = len) : len ≤ Rows.uptoBulk d := by
  rcases h with ⟨rfl, rfl⟩ | ⟨el, sp, rfl, rfl⟩
  · omega
  · have := bulk_ge el
    simp only [Rows.uptoBulk]; omega
structure ImB (x : Img) (m : Nat) : Prop where
  ty : x.ty.length ≤ m
  fi : x.fi.length ≤ m
  ins : x.ins.length ≤ m
  outs : x.outs.length ≤ m
  cd : x.cd.length ≤ m
set_option maxRecDepth 100000 in
theorem open_imgB {H : Type} {enc : TypeId × Value → H} {W : World} {r : Reach} {b0 : Nat} {v : Value} {d : DataW H} {ps : List MemPlace} {ts : List TypeId} {ds : List (DataW H)} {j : Nat} (hv : Value.okWide Tryd.prog W r b0 26 v) (h : DataW.Trod enc Tryd.prog W 0 (fun _ => true) true 26 v d ps) (hsz : (DataW.weightsEach Tryd.prog ts ds).all (· ≤ reachBytes) = true) (ht : ts[j]? = some 26) (hd : ds[j]? = some d) :
    ∃ nm tv fv iv ov cv x, v = .agg #[nm, tv, fv, iv, ov, cv] ∧ Im W nm tv fv iv ov cv x ∧ (∀ a n c, tv = .slice a n c → n ≤ c) ∧ ImL x ∧ x.name.length ≤ 140737488351232 ∧ (∀ y ∈ x.cd, InB y) ∧ ImB x (Rows.uptoBulk d) := by
  obtain ⟨cs, rfl, hcz⟩ := okWide_struct Tryd.underlying26 hv
  obtain ⟨fuel, hf⟩ := h
  obtain ⟨xs, n, _, hx, hl, hlen, hfl⟩ := DataW.trod_struct Tryd.underlying26 hf
  obtain ⟨c0, c1, c2, c3, c4, c5, rfl⟩ : ∃ c0 c1 c2 c3 c4 c5, cs = #[c0, c1, c2, c3, c4, c5] := by
    have h6 := hcz.trans cellsX
    obtain ⟨l⟩ := cs
    match l, h6 with
    | [c0, c1, c2, c3, c4, c5], _ => exact ⟨c0, c1, c2, c3, c4, c5, rfl⟩
  obtain ⟨y0, y1, y2, y3, y4, y5, rfl⟩ : ∃ y0 y1 y2 y3 y4 y5, xs = [y0, y1, y2, y3, y4, y5] := by
    match xs, hlen with
    | [y0, y1, y2, y3, y4, y5], _ => exact ⟨y0, y1, y2, y3, y4, y5, rfl⟩
  have g0 : DataW.trod enc Tryd.prog W 0 (fun _ => true) true n 9 [c0] = some y0 := by simpa [Value.cells, cells9] using hfl 0 _ rfl
  have g1 : DataW.trod enc Tryd.prog W 0 (fun _ => true) true n 22 [c1] = some y1 := by simpa [Value.cells, cellsSI] using hfl 1 _ rfl
  have g2 : DataW.trod enc Tryd.prog W 0 (fun _ => true) true n 23 [c2] = some y2 := by simpa [Value.cells, cellsSN] using hfl 2 _ rfl
  have g3 : DataW.trod enc Tryd.prog W 0 (fun _ => true) true n 22 [c3] = some y3 := by simpa [Value.cells, cellsSI] using hfl 3 _ rfl
  have g4 : DataW.trod enc Tryd.prog W 0 (fun _ => true) true n 22 [c4] = some y4 := by simpa [Value.cells, cellsSI] using hfl 4 _ rfl
  have g5 : DataW.trod enc Tryd.prog W 0 (fun _ => true) true n 24 [c5] = some y5 := by simpa [Value.cells, cellsSC] using hfl 5 _ rfl
  obtain ⟨s, e0, rfl, _⟩ := DataW.trod_string Tryd.underlying9 g0
  obtain rfl : c0 = .string s := by simpa using e0
  obtain ⟨a1, n1, k1, rfl⟩ := slice_shape Tryd.underlying22 g1
  obtain ⟨a2, n2, k2, rfl⟩ := slice_shape Tryd.underlying23 g2
  obtain ⟨a3, n3, k3, rfl⟩ := slice_shape Tryd.underlying22 g3
  obtain ⟨a4, n4, k4, rfl⟩ := slice_shape Tryd.underlying22 g4
  obtain ⟨a5, n5, k5, rfl⟩ := slice_shape Tryd.underlying24 g5
  obtain ⟨l1, p1, q1, L1, _, w1⟩ := open_il g1 rfl
  obtain ⟨l2, p2, _, L2, _, w2⟩ := open_nl g2 rfl
  obtain ⟨l3, p3, _, L3, _, w3⟩ := open_il g3 rfl
  obtain ⟨l4, p4, _, L4, _, w4⟩ := open_il g4 rfl
  obtain ⟨l5, p5, L5, I5, w5⟩ := open_cd g5 rfl
  have hd' : d = .agg [.lit (.string s.data.toList), y1.1, y2.1, y3.1, y4.1, y5.1] := congrArg Prod.fst hx
  subst hd'
  have hin : (DataW.weightsEach Tryd.prog [9, 22, 23, 22, 22, 24] [.lit (.string s.data.toList), y1.1, y2.1, y3.1, y4.1, y5.1]).all (· ≤ reachBytes) = true := List.all_eq_true.2 fun k hk => List.all_eq_true.1 hsz k (DataW.weights_mem_each ht hd k (by
    simp only [DataW.weights, Tryd.underlying26]; exact hk))
  have lw : ∀ {l : List Int} {len : Nat} {y : DataW H × List MemPlace}, ((y.1 = .nil ∧ len = 0) ∨ ∃ el sp, y.1 = .slice el sp ∧ el = l.map fun z => .lit (.int .i64 z)) → l.length = len → (y.1 = .nil ∧ len = 0) ∨ ∃ el sp, y.1 = .slice el sp ∧ el.length = len := fun hw hp => by
    rcases hw with hw | ⟨el, sp, e1, e2⟩
    · exact .inl hw
    · exact .inr ⟨el, sp, e1, by rw [e2, List.length_map, hp]⟩
  have z1 := len_sized hin (j := 1) rfl rfl Tryd.underlying22 (lw w1 p1)
  have z2 := len_sized hin (j := 2) rfl rfl Tryd.underlying23 (lw w2 p2)
  have z3 := len_sized hin (j := 3) rfl rfl Tryd.underlying22 (lw w3 p3)
  have z4 := len_sized hin (j := 4) rfl rfl Tryd.underlying22 (lw w4 p4)
  have z5 := len_sized hin (j := 5) rfl rfl Tryd.underlying24 w5
  have z0 := sized_string hin (j := 0) rfl rfl
  have hr : reachBytes = 140737488351232 := by decide
  rw [bytes3] at z1 z3 z4
  rw [bytes2] at z2
  rw [bytesI] at z5
  refine ⟨_, _, _, _, _, _, ⟨s.data.toList, l1, l2, l3, l4, l5⟩, rfl, ⟨by cases s; rfl, L1, L2, L3, L4, L5⟩, fun a n c e => by injection e with _ e1 e2; omega, ⟨?_, ?_, ?_, ?_, ?_⟩, by rw [hr] at z0; exact z0, I5, ?_⟩
  · show l1.length ≤ _; omega
  · show l2.length ≤ _; omega
  · show l3.length ≤ _; omega
  · show l4.length ≤ _; omega
  · show l5.length ≤ _; omega
  · have b1 := bulk_items (lw w1 p1)
    have b2 := bulk_items (lw w2 p2)
    have b3 := bulk_items (lw w3 p3)
    have b4 := bulk_items (lw w4 p4)
    have b5 := bulk_items w5
    simp only [Rows.uptoBulk, Rows.uptoBulkAll]
    exact ⟨by show l1.length ≤ _; omega, by show l2.length ≤ _; omega, by show l3.length ≤ _; omega, by show l4.length ≤ _; omega, by show l5.length ≤ _; omega⟩
end Go.Proofs.YtlckedionmgjjaaDoor
namespace Go.Proofs.YtlckedionmgjjaaDoor
open Go.RowKit
theorem ilst_owns {w : World} {base e : Nat} {v : Value} {l : List Int} (h : w.ownsRow base e 1 v l.length (intC l)) : ILst w v l := by
  rcases h.2 with ⟨hv, h0⟩ | ⟨g, cap, cur, hv, hb, hg, hn, hm, hc, ht⟩
  · obtain rfl := List.eq_nil_of_length_eq_zero h0
    subst hv
    exact ILst.nil w 0
  · subst hv
    refine ⟨_, g, 0, cap, rfl, fun _ => ⟨?_, rfl⟩, fun i x hx => ?_⟩
    · exact (Array.getElem?_eq_some_iff.1 hg).1
    · have hi : i < l.length := (List.getElem?_eq_some_iff.1 hx).1
      rw [Nat.zero_add, h.cellAt i (by omega), intC_get, hx]; rfl
/-- a slice of Booleans that reads as a list -/
def BLst (w : World) (v : Value) (l : List Bool) : Prop :=
  ∃ a b cap, v = .slice a l.length cap ∧ (0 < l.length → b < w.heap.size ∧ a = some ⟨b, 0, none⟩) ∧ ∀ i x, l[i]? = some x → w.cell? ⟨b, i, none⟩ = some (.bool x)
theorem BLst.on {w w' : World} {v : Value} {l : List Bool} (h : BLst w v l) (hb : Below w.heap.size w w') : BLst w' v l := by
  obtain ⟨a, b, cap, rfl, hA, hI⟩ := h
  refine ⟨a, b, cap, rfl, fun h => ⟨Nat.lt_of_lt_of_le (hA h).1 hb.size, (hA h).2⟩, fun i x hx => ?_⟩
  have hlt : b < w.heap.size := (hA (Nat.lt_of_le_of_lt (Nat.zero_le _) (List.getElem?_eq_some_iff.1 hx).1)).1
  exact (hb.cell (p := ⟨b, i, none⟩) hlt).trans (hI i x hx)
theorem BLst.of_ob {w : World} {v : Value} {l : List Bool} (h : (l = [] ∧ v = .slice none 0 0) ∨ ∃ g, v = .slice (some ⟨g, 0, none⟩) l.length l.length ∧ Ob w g 4 (l.map Value.bool)) : BLst w v l := by
  rcases h with ⟨rfl, rfl⟩ | ⟨g, rfl, ho⟩
  · exact ⟨none, 0, 0, rfl, fun h => absurd h (Nat.lt_irrefl 0), fun i x hx => by cases hx⟩
  · exact ⟨_, g, _, rfl, fun _ => ⟨ho.lt, rfl⟩, fun i x hx => ho.cell i (by rw [List.getElem?_map, hx]; rfl)⟩
theorem BLst.of_owns {w : World} {base : Nat} {v : Value} {l : List Bool} (h : w.ownsRow base 4 1 v l.length (l.map Value.bool)) : BLst w v l := by
  rcases h.2 with ⟨hv, h0⟩ | ⟨g, cap, cur, hv, hb, hg, hn, hm, hc, ht⟩
  · obtain rfl := List.eq_nil_of_length_eq_zero h0
    subst hv
    exact ⟨none, 0, 0, rfl, fun h => absurd h (Nat.lt_irrefl 0), fun i x hx => by cases hx⟩
  · subst hv
    refine ⟨_, g, cap, rfl, fun _ => ⟨(Array.getElem?_eq_some_iff.1 hg).1, rfl⟩, fun i x hx => ?_⟩
    have hi : i < l.length := (List.getElem?_eq_some_iff.1 hx).1
    rw [h.cellAt i (by omega), List.getElem?_map, hx]; rfl
set_option maxRecDepth 100000 in
set_option maxHeartbeats 6400000 in
theorem vchecks_any (nm tv fv iv ov cv : Value) (x : Img) (w : World) (hg : GlC w) (htz : Tz w) (hx : Im w nm tv fv iv ov cv x) (hcap : ∀ a n c, tv = .slice a n c → n ≤ c) (hB : ImB x 1048576) :
    Calls Tryd.prog 3 #[.agg #[nm, tv, fv, iv, ov, cv]] w fun e w' => e = .returned (.bool true) ∧ Below w.heap.size w w' := by
  have hl : ImL x := ⟨by have := hB.ty; omega, by have := hB.fi; omega, by have := hB.ins; omega, by have := hB.outs; omega, by have := hB.cd; omega⟩
  have hio : x.ins.length + x.outs.length ≤ 20000000000000 := by have := hB.ins; have := hB.outs; omega
  have HB1 : Hid (∀ A, Below w.heap.size w (w.alloc A)) := fun A => (Below.refl _ _).alloc (Nat.le_refl _) _
  have HX := hide hx
  have m6 : Hid (∀ W, Below w.heap.size w W → Calls Tryd.prog 6 #[.agg #[nm, tv, fv, iv, ov, cv]] W fun e w' => ∃ tv' fv' iv' ov' cv', e = .returned (.agg #[nm, tv', fv', iv', ov', cv']) ∧ w'.ownsRow (W.heap.size + 2) 3 1 tv' x.ty.length (intC x.ty) ∧ w'.ownsRow (W.heap.size + 2) 2 1 fv' x.fi.length (intC x.fi) ∧ w'.ownsRow (W.heap.size + 2) 3 1 iv' x.ins.length (intC x.ins) ∧ w'.ownsRow (W.heap.size + 2) 3 1 ov' x.outs.length (intC x.outs) ∧ w'.ownsRow (W.heap.size + 2) 38 4 cv' x.cd.length (inC x.cd) ∧ Below W.heap.size W w') := fun W hb => copy_any nm tv fv iv ov cv x W (hx.on hb) (by have := hB.ty; omega) (by have := hB.fi; omega) (by have := hB.ins; omega) (by have := hB.outs; omega) (by have := hB.cd; omega)
  have m7 : Hid (∀ W a b c d e f, Below w.heap.size w W → Im W a b c d e f x → (∀ p n q, b = .slice p n q → n ≤ q) → Calls Tryd.prog 7 #[.agg #[a, b, c, d, e, f]] W fun e w' => e = .returned (.tuple #[.int .i64 (errP x).1, .int .i64 (errP x).2]) ∧ Below W.heap.size W w') := fun W a b c d e f hb hI hc => vcheck_any a b c d e f x W (hg.on hb hg.lt) (htz.on hb htz.lt) hI hc hl
  have m8 : Hid (∀ W, Below w.heap.size w W → Calls Tryd.prog 8 #[.agg #[nm, tv, fv, iv, ov, cv]] W fun e w' => e = .returned (.tuple #[.int .i64 (errP x).1, .int .i64 (errP x).2]) ∧ Below W.heap.size W w') := fun W hb => rvcheck_any nm tv fv iv ov cv x W (hx.on hb) hl hio
  have m9 : Hid (∀ W a b c d e f, Below w.heap.size w W → Im W a b c d e f x → (∀ p n q, b = .slice p n q → n ≤ q) → Calls Tryd.prog 9 #[.agg #[a, b, c, d, e, f]] W fun e w' => e = .returned (.tuple #[.int .i64 (deepP x).1, .int .i64 (deepP x).2]) ∧ Below W.heap.size W w') := fun W a b c d e f hb hI hc => vdeep_any a b c d e f x W (hg.on hb hg.lt) (htz.on hb htz.lt) hI hc hl
  have m10 : Hid (∀ W, Below w.heap.size w W → Calls Tryd.prog 10 #[.agg #[nm, tv, fv, iv, ov, cv]] W fun e w' => e = .returned (.tuple #[.int .i64 (deepP x).1, .int .i64 (deepP x).2]) ∧ Below W.heap.size W w') := fun W hb => rvdeep_any nm tv fv iv ov cv x W (hx.on hb) hl hio
  have m11 : Hid (∀ W a b c d e f, Below w.heap.size w W → Im W a b c d e f x → (∀ p n q, b = .slice p n q → n ≤ q) → Calls Tryd.prog 11 #[.agg #[a, b, c, d, e, f]] W fun e w' => ∃ v, e = .returned (.tuple #[v, .int .i64 (rchP x).2]) ∧ BLst w' v (rchP x).1 ∧ Below W.heap.size W w') := fun W a b c d e f hb hI hc => (vreached_any a b c d e f x W (hg.on hb hg.lt) (htz.on hb htz.lt) hI hc hl).mono fun _ _ ⟨v, h1, h2, h3⟩ => ⟨v, h1, BLst.of_ob (h3.imp id fun ⟨g, _, h⟩ => ⟨g, h⟩), h2⟩
  have m12 : Hid (∀ W, Below w.heap.size w W → Calls Tryd.prog 12 #[.agg #[nm, tv, fv, iv, ov, cv]] W fun e w' => ∃ v, e = .returned (.tuple #[v, .int .i64 (rchP x).2]) ∧ BLst w' v (rchP x).1 ∧ (rchP x).1.length ≤ 4096 ∧ Below W.heap.size W w') := fun W hb => (rvreached_any nm tv fv iv ov cv x W (hx.on hb) hl hio).mono fun _ _ ⟨v, h1, h2, h3, h4⟩ => ⟨v, h1, BLst.of_owns h3, h4, h2⟩
  have m13 : Hid (∀ W a b c d e f, Below w.heap.size w W → Im W a b c d e f x → Calls Tryd.prog 13 #[.agg #[a, b, c, d, e, f], .agg #[nm, tv, fv, iv, ov, cv]] W fun e w' => e = .returned (.bool true) ∧ Below W.heap.size W w') := fun W a b c d e f hb hI => image_one _ _ _ _ _ _ _ _ _ _ _ _ x W hI (hx.on hb) hl
  have m14 : Hid (∀ W, Below w.heap.size w W → Calls Tryd.prog 14 #[] W fun e w' => e = .returned (.bool true) ∧ Below W.heap.size W w') := fun W hb => works_any W (hg.on hb hg.lt) (htz.on hb htz.lt)
  obtain ⟨S, hS⟩ : ∃ S : ByteArray, S = ⟨x.name.toArray⟩ := ⟨_, rfl⟩
  have hnm : nm = .string S := by rw [hS]; exact hx.name
  have HSN := hide hS
  subst hnm
  obtain ⟨ta, tc, rfl⟩ := hx.ty.shape
  obtain ⟨fa, fc, rfl⟩ := hx.fi.shape
  obtain ⟨ia, ic, rfl⟩ := hx.ins.shape
  obtain ⟨oa, oc, rfl⟩ := hx.outs.shape
  obtain ⟨ca, cc, rfl⟩ := hx.cd.shape
  clear hS hg htz hx hcap hB hl hio
  generalize (errP x).1 = c1 at *
  generalize (errP x).2 = c2 at *
  generalize (deepP x).1 = d1 at *
  generalize (deepP x).2 = d2 at *
  generalize (rchP x).2 = r2 at *
  generalize (rchP x).1 = L at *
  obtain ⟨tn, htn⟩ : ∃ n, n = x.ty.length := ⟨_, rfl⟩
  obtain ⟨fn, hfn⟩ : ∃ n, n = x.fi.length := ⟨_, rfl⟩
  obtain ⟨in_, hin⟩ : ∃ n, n = x.ins.length := ⟨_, rfl⟩
  obtain ⟨on_, hon⟩ : ∃ n, n = x.outs.length := ⟨_, rfl⟩
  obtain ⟨cn, hcn⟩ : ∃ n, n = x.cd.length := ⟨_, rfl⟩
  rw [← htn, ← hfn, ← hin, ← hon, ← hcn] at m6 m8 m10 m12 m13 ⊢
  have HTN := hide htn
  have HFN := hide hfn
  have HIN := hide hin
  have HON := hide hon
  have HCN := hide hcn
  clear htn hfn hin hon hcn
  go_enter Tryd.func3, Tryd.ntmps3
  go_wp2_with fail
  refine (m6.out _ (HB1.out _)).mono ?_
  rintro e w1 ⟨tv', fv', iv', ov', cv', rfl, r1, r2, r3, r4, r5, b1⟩
  obtain ⟨ta', tc', rfl, hcp⟩ := owns_slice r1
  obtain ⟨fa', fc', rfl, -⟩ := owns_slice r2
  obtain ⟨ia', ic', rfl, -⟩ := owns_slice r3
  obtain ⟨oa', oc', rfl, -⟩ := owns_slice r4
  obtain ⟨ca', cc', rfl, -⟩ := owns_slice r5
  have HCP : Hid (∀ p n q, Value.slice ta' tn tc' = .slice p n q → n ≤ q) := fun p n q h => by injection h with _ h1 h2; omega
  have I1 : Hid (Im w1 (.string S) (.slice ta' tn tc') (.slice fa' fn fc') (.slice ia' in_ ic') (.slice oa' on_ oc') (.slice ca' cn cc') x) := by
    rw [HTN.out] at r1 ⊢
    rw [HFN.out] at r2 ⊢
    rw [HIN.out] at r3 ⊢
    rw [HON.out] at r4 ⊢
    rw [HCN.out] at r5 ⊢
    exact ⟨congrArg Value.string HSN.out, ilst_owns r1, ilst_owns r2, ilst_owns r3, ilst_owns r4, ISt.of_owns r5⟩
  have X1 := hide ((b1.block w.heap.size (by simp)).trans (heap_alloc_new w (.cells #[.string S, .slice ta tn tc, .slice fa fn fc, .slice ia in_ ic, .slice oa on_ oc, .slice ca cn cc] 26)))
  have z1 : w.heap.size < w1.heap.size := by have := b1.size; simp at this; omega
  have B1 := hide ((HB1.out _).trans (b1.mono (by simp)))
  obtain ⟨w2, hw2⟩ : ∃ w2, w2 = w1.alloc (.cells #[.string S, .slice ta' tn tc', .slice fa' fn fc', .slice ia' in_ ic', .slice oa' on_ oc', .slice ca' cn cc'] 26) := ⟨_, rfl⟩
  have X2 : Hid (w2.heap[w.heap.size]? = some (.cells #[.string S, .slice ta tn tc, .slice fa fn fc, .slice ia in_ ic, .slice oa on_ oc, .slice ca cn cc] 26 (0, 0))) := by rw [hw2]; exact (heap_alloc_old _ _ z1).trans X1.out
  have Y2 : Hid (w2.heap[w1.heap.size]? = some (.cells #[.string S, .slice ta' tn tc', .slice fa' fn fc', .slice ia' in_ ic', .slice oa' on_ oc', .slice ca' cn cc'] 26 (0, 0))) := by rw [hw2]; exact heap_alloc_new w1 _
  have I2 : Hid (Im w2 (.string S) (.slice ta' tn tc') (.slice fa' fn fc') (.slice ia' in_ ic') (.slice oa' on_ oc') (.slice ca' cn cc') x) := by rw [hw2]; exact I1.out.on ((Below.refl _ _).alloc (Nat.le_refl _) _)
  have B2 : Hid (Below w.heap.size w w2) := by rw [hw2]; exact B1.out.alloc B1.out.size _
  have HW2 := hide hw2
  obtain ⟨Z, hZ⟩ : ∃ Z, Z = w1.heap.size := ⟨_, rfl⟩
  have z2 : w.heap.size < w2.heap.size ∧ w1.heap.size < w2.heap.size := by rw [hw2]; simp; omega
  clear hw2 r1 r2 r3 r4 r5 b1 hcp m6 X1 I1 B1
  go_wp2_with fail
  rw [← HW2.out]
  clear HW2
  refine (m7.out _ _ _ _ _ _ _ B2.out I2.out HCP.out).mono ?_
  rintro e w3 ⟨rfl, b3⟩
  have X3 := hide ((b3.block w.heap.size z2.1).trans X2.out)
  have Y3 := hide ((b3.block w1.heap.size z2.2).trans Y2.out)
  have I3 := hide (I2.out.on b3)
  have B3 := hide (B2.out.trans (b3.mono B2.out.size))
  have z3 : w.heap.size < w3.heap.size ∧ w1.heap.size < w3.heap.size := by have := b3.size; omega
  clear b3 X2 Y2 I2 B2 z2 m7
  obtain ⟨q0, q1, q2, q3, q4, q5, -⟩ := six X3.out
  obtain ⟨q0, q1, q2, q3, q4, q5, -⟩ := six X3.out
  go_wp2_with fail
  refine (m8.out _ B3.out).mono ?_
  rintro e w4 ⟨rfl, b4⟩
  have X4 := hide ((b4.block w.heap.size z3.1).trans X3.out)
  have Y4 := hide ((b4.block w1.heap.size z3.2).trans Y3.out)
  have I4 := hide (I3.out.on b4)
  have B4 := hide (B3.out.trans (b4.mono B3.out.size))
  have z4 : w.heap.size < w4.heap.size ∧ w1.heap.size < w4.heap.size := by have := b4.size; omega
  clear b4 X3 Y3 I3 B3 z3 m8 q0 q1 q2 q3 q4 q5
  obtain ⟨p0, p1, p2, p3, p4, p5, -⟩ := six Y4.out
  go_wp2_with fail
  refine (m9.out _ _ _ _ _ _ _ B4.out I4.out HCP.out).mono ?_
  rintro e w5 ⟨rfl, b5⟩
  have X5 := hide ((b5.block w.heap.size z4.1).trans X4.out)
  have Y5 := hide ((b5.block w1.heap.size z4.2).trans Y4.out)
  have I5 := hide (I4.out.on b5)
  have B5 := hide (B4.out.trans (b5.mono B4.out.size))
  have z5 : w.heap.size < w5.heap.size ∧ w1.heap.size < w5.heap.size := by have := b5.size; omega
  clear b5 X4 Y4 I4 B4 z4 m9 p0 p1 p2 p3 p4 p5
  obtain ⟨q0, q1, q2, q3, q4, q5, -⟩ := six X5.out
  go_wp2_with fail
  refine (m10.out _ B5.out).mono ?_
  rintro e w6 ⟨rfl, b6⟩
  have X6 := hide ((b6.block w.heap.size z5.1).trans X5.out)
  have Y6 := hide ((b6.block w1.heap.size z5.2).trans Y5.out)
  have I6 := hide (I5.out.on b6)
  have B6 := hide (B5.out.trans (b6.mono B5.out.size))
  have z6 : w.heap.size < w6.heap.size ∧ w1.heap.size < w6.heap.size := by have := b6.size; omega
  clear b6 X5 Y5 I5 B5 z5 m10 q0 q1 q2 q3 q4 q5
  obtain ⟨p0, p1, p2, p3, p4, p5, -⟩ := six Y6.out
  go_wp2_with fail
  refine (m11.out _ _ _ _ _ _ _ B6.out I6.out HCP.out).mono ?_
  rintro e w7 ⟨va, rfl, ha, b7⟩
  have X7 := hide ((b7.block w.heap.size z6.1).trans X6.out)
  have Y7 := hide ((b7.block w1.heap.size z6.2).trans Y6.out)
  have I7 := hide (I6.out.on b7)
  have B7 := hide (B6.out.trans (b7.mono B6.out.size))
  have z7 : w.heap.size < w7.heap.size ∧ w1.heap.size < w7.heap.size := by have := b7.size; omega
  have HA7 := hide ha
  obtain ⟨aa, ab, ac, rfl, -, -⟩ := ha
  clear b7 X6 Y6 I6 B6 z6 m11 p0 p1 p2 p3 p4 p5
  obtain ⟨q0, q1, q2, q3, q4, q5, -⟩ := six X7.out
  go_wp2_with fail
  refine (m12.out _ B7.out).mono ?_
  rintro e w8 ⟨vb, rfl, hb, hl4, b8⟩
  have X8 := hide ((b8.block w.heap.size z7.1).trans X7.out)
  have Y8 := hide ((b8.block w1.heap.size z7.2).trans Y7.out)
  have I8 := hide (I7.out.on b8)
  have B8 := hide (B7.out.trans (b8.mono B7.out.size))
  have z8 : w.heap.size < w8.heap.size ∧ w1.heap.size < w8.heap.size := by have := b8.size; omega
  have HA8 := hide (HA7.out.on b8)
  have HB8 := hide hb
  obtain ⟨ba, bb, bc, rfl, -, -⟩ := hb
  clear b8 X7 Y7 I7 B7 z7 m12 q0 q1 q2 q3 q4 q5 HA7
  obtain ⟨n, hn⟩ : ∃ n, n = L.length := ⟨_, rfl⟩
  have HN := hide hn
  rw [← hn] at HA8 HB8 hl4 ⊢
  obtain ⟨aa', xb, ac', ea, hA1, hA2⟩ := HA8.out
  obtain ⟨ba', yb, bc', eb, hB1, hB2⟩ := HB8.out
  rw [← hn] at ea hA1 eb hB1
  injection ea with ea1 _ ea2
  injection eb with eb1 _ eb2
  subst ea1 ea2 eb1 eb2
  have HA1 := hide hA1
  have HA2 := hide hA2
  have HB1' := hide hB1
  have HB2 := hide hB2
  have e0 : ((n : Int) != (n : Int)) = false := by simp
  have n9 : (n : Int) ≤ 4096 := by omega
  have HX9 : Hid (∀ d, (w8.drewN d).heap[w.heap.size]? = some (.cells #[.string S, .slice ta tn tc, .slice fa fn fc, .slice ia in_ ic, .slice oa on_ oc, .slice ca cn cc] 26 (0, 0))) := fun d => X8.out
  have HY9 : Hid (∀ d, (w8.drewN d).heap[w1.heap.size]? = some (.cells #[.string S, .slice ta' tn tc', .slice fa' fn fc', .slice ia' in_ ic', .slice oa' on_ oc', .slice ca' cn cc'] 26 (0, 0))) := fun d => Y8.out
  clear hn hl4 hA1 hA2 hB1 hB2 HA8 HB8 X8 Y8 z8
  go_wp2
  clear e0
  go_loopw [16] (fun i wr => ∃ k : Nat, k ≤ n ∧ i = .int .i64 (k : Int) ∧ Hid (∃ d, wr = w8.drewN d)) (fun i _ => n - (intOf i).toNat)
  case atStart => exact ⟨0, Nat.zero_le _, rfl, 0, rfl⟩
  case round =>
    obtain ⟨k, hk, rfl, hh⟩ := hrel
    have HWR := hide hh.out
    clear hh
    have k0 : (0 : Int) ≤ (k : Int) := by omega
    by_cases hlt : k < n
    · have j1 : (k : Int) < (n : Int) := by omega
      obtain ⟨b, hb⟩ : ∃ b, L[k]? = some b := ⟨_, List.getElem?_eq_getElem (by rw [← HN.out]; exact hlt)⟩
      obtain ⟨_, ex⟩ := HA1.out (by omega)
      obtain ⟨_, ey⟩ := HB1'.out (by omega)
      have cx : wr.cell? ⟨xb, k, none⟩ = some (.bool b) := by obtain ⟨d, e⟩ := HWR.out; rw [e]; exact HA2.out k b hb
      have cy : wr.cell? ⟨yb, k, none⟩ = some (.bool b) := by obtain ⟨d, e⟩ := HWR.out; rw [e]; exact HB2.out k b hb
      have HD1 : Hid (∀ q, ∃ d, wr.drewN q = w8.drewN d) := fun q => by obtain ⟨d, e⟩ := HWR.out; exact ⟨d + q, by rw [e]; simp only [World.drewN, Nat.add_assoc]⟩
      have hbb : (b != b) = false := by simp
      rw [ex, ey]
      clear hb
      go_wp2_with fail
      go_quiet (fail)
      go_wp2
      go_roundw
      case rel => exact ⟨k + 1, by omega, by go_num, HD1.out _⟩
      case measure => simp [intOf]; omega
    · have j1 : ¬ (k : Int) < (n : Int) := by omega
      have X9 : Hid (wr.heap[w.heap.size]? = some (.cells #[.string S, .slice ta tn tc, .slice fa fn fc, .slice ia in_ ic, .slice oa on_ oc, .slice ca cn cc] 26 (0, 0))) := by obtain ⟨d, e⟩ := HWR.out; rw [e]; exact HX9.out d
      have Y9 : Hid (wr.heap[w1.heap.size]? = some (.cells #[.string S, .slice ta' tn tc', .slice fa' fn fc', .slice ia' in_ ic', .slice oa' on_ oc', .slice ca' cn cc'] 26 (0, 0))) := by obtain ⟨d, e⟩ := HWR.out; rw [e]; exact HY9.out d
      have I9 : Hid (Im wr (.string S) (.slice ta' tn tc') (.slice fa' fn fc') (.slice ia' in_ ic') (.slice oa' on_ oc') (.slice ca' cn cc') x) := by obtain ⟨d, e⟩ := HWR.out; rw [e]; exact I8.out.on (below_drewN (Below.refl _ _) d)
      have B9 : Hid (Below w.heap.size w wr) := by obtain ⟨d, e⟩ := HWR.out; rw [e]; exact below_drewN B8.out d
      have g1 : (c1 == c1) = true := by simp
      have g2 : (c2 == c2) = true := by simp
      have g3 : (d1 == d1) = true := by simp
      have g4 : (d2 == d2) = true := by simp
      have g5 : (r2 == r2) = true := by simp
      obtain ⟨q0, q1, q2, q3, q4, q5, -⟩ := six X9.out
      obtain ⟨p0, p1, p2, p3, p4, p5, -⟩ := six Y9.out
      go_wp2_with fail
      refine (m13.out _ _ _ _ _ _ _ B9.out I9.out).mono ?_
      rintro e w10 ⟨rfl, b10⟩
      have B10 := hide (B9.out.trans (b10.mono B9.out.size))
      clear b10 m13 p0 p1 p2 p3 p4 p5 q0 q1 q2 q3 q4 q5 X9 Y9 I9
      go_wp2_with fail
      refine (m14.out _ B10.out).mono ?_
      rintro e w11 ⟨rfl, b11⟩
      have B11 := hide (B10.out.trans (b11.mono B10.out.size))
      clear b11 m14
      go_wp2
      go_ret
      exact ⟨rfl, B11.out⟩
end Go.Proofs.YtlckedionmgjjaaDoor
namespace Go.Proofs.YtlckedionmgjjaaDoor
open Go.RowKit
theorem vchecks_row (nm tv fv iv ov cv : Value) (x : Img) (w : World) (hx : Im w nm tv fv iv ov cv x) (hcap : ∀ a n c, tv = .slice a n c → n ≤ c) (_ : ImL x) (_ : x.name.length ≤ 140737488351232) (_ : ∀ y ∈ x.cd, InB y) (hg : GlP w) (hB : ImB x 1048576) : Calls Tryd.prog 3 #[.agg #[nm, tv, fv, iv, ov, cv]] w fun e w' => e = .returned (.bool true) ∧ Below w.heap.size w w' :=
  vchecks_any nm tv fv iv ov cv x w hg.1 hg.2 hx hcap hB
end Go.Proofs.YtlckedionmgjjaaDoor
