/- An image among the arguments, opened. | verify: a walk in memory. | Short forms of the kit's laws on drawn regions. -/
import Derived.Test.YtlckedionmgjjaaDoorMg14
import Derived.Test.YtlckedionmgjjaaDoorMg13
import Derived.Deep.Slices
import Derived.LaidLaws
import Derived.SizedLaws
import Derived.ChangeSame
import Derived.Test.YtlckedionmgjjaaDoorMg9
import Derived.Stop.BytesEq
import Derived.Deep.RegionHeldLaw
namespace Go.Proofs.YtlckedionmgjjaaDoor
open Go.ChangeShapes Go.WideShapes Go.ChangeAt Go.RowKit
theorem laidOut : laidOutB Tryd.prog = true := by kernel_rfl
theorem bytes3 : Tryd.prog.bytesOf 3 = 8 := by kernel_rfl
theorem bytes2 : Tryd.prog.bytesOf 2 = 8 := by kernel_rfl
theorem bytesI : Tryd.prog.bytesOf 38 = 32 := by kernel_rfl
theorem add_at (b off j : Nat) : (⟨b, off, none⟩ : Addr).add j = ⟨b, off + j, none⟩ := by unfold Addr.add; split <;> simp_all
theorem wf_int {n : Int} (hw : (Lit.int .i64 n).wf = true) : -9223372036854775808 ≤ n ∧ n ≤ 9223372036854775807 := by
  have h : (decide (IntKind.i64.min ≤ n) && decide (n ≤ IntKind.i64.max)) = true := hw
  rw [Bool.and_eq_true] at h
  exact ⟨of_decide_eq_true h.1, of_decide_eq_true h.2⟩
theorem open_il {H : Type} {enc : TypeId × Value → H} {W : World} {fuel len cap : Nat} {a : Option Addr} {x : DataW H × List MemPlace} {cs : List Value} (h : DataW.trod enc Tryd.prog W 0 (fun _ => true) true fuel 22 cs = some x) (hcs0 : cs = [.slice a len cap]) :
    ∃ l : List Int, l.length = len ∧ len ≤ cap ∧ ILst W (.slice a len cap) l ∧ (∀ y ∈ l, -9223372036854775808 ≤ y ∧ y ≤ 9223372036854775807) ∧ ((x.1 = .nil ∧ len = 0) ∨ ∃ el sp, x.1 = .slice el sp ∧ el = l.map fun y => .lit (.int .i64 y)) := by
  subst hcs0
  rcases Deep.open_slice Tryd.underlying22 h with ⟨hcs, rfl⟩ | ⟨a', len', cap', m, n, D, Pl, hcs, hb, hl, hm, hmm, rfl, hx⟩
  · simp at hcs
    obtain ⟨rfl, rfl, rfl⟩ := hcs
    exact ⟨[], rfl, Nat.le_refl _, ILst.nil _ _, fun y hy => (by cases hy), .inl ⟨rfl, rfl⟩⟩
  · simp at hcs
    obtain ⟨rfl, rfl, rfl⟩ := hcs
    simp only [if_true] at hmm
    subst hmm
    rw [cells3] at hx
    have each : ∀ i, i < len → ∃ y : Int, W.cell? (a'.add (i * 1)) = some (.int .i64 y) ∧ (-9223372036854775808 ≤ y ∧ y ≤ 9223372036854775807) ∧ D i = .lit (.int .i64 y) := fun i hi => by
      obtain ⟨cs', h1, h2⟩ := hx i (by omega)
      obtain ⟨_, hlen, hcell⟩ := World.cells?_some h1
      obtain ⟨v0, rfl⟩ : ∃ v0, cs' = [v0] := by
        match cs', hlen with
        | [v0], _ => exact ⟨v0, rfl⟩
      obtain ⟨z0, e0, E0, hw⟩ := DataW.trod_int Tryd.underlying3 h2
      have d0 := hcell 0 (by omega)
      rw [Deep.add_add] at d0
      injection e0 with e0
      subst e0
      exact ⟨z0, d0, wf_int hw, congrArg Prod.fst E0⟩
    obtain ⟨f, hf⟩ := @Deep.choose_lt Int ⟨0⟩ _ _ each
    refine ⟨(List.range len).map f, by simp, hl, ?_, ?_, .inr ⟨_, _, rfl, ?_⟩⟩
    · by_cases hl0 : len = 0
      · subst hl0
        exact ⟨some a', 0, 0, m, rfl, fun h => absurd h (Nat.lt_irrefl 0), fun i x hx => by cases hx⟩
      · obtain ⟨b, off, spot⟩ := a'
        have hspot : spot = none := by simpa [Addr.add] using World.cell?_spot (hf 0 (by omega)).1
        subst hspot
        have hbW : b < W.heap.size := World.block_lt_of_cell? W _ (by have := (hf 0 (by omega)).1; rwa [add_at] at this)
        refine ⟨some ⟨b, off, none⟩, b, off, m, by simp, fun _ => ⟨hbW, rfl⟩, fun i y hy => ?_⟩
        have hi : i < len := by have := (List.getElem?_eq_some_iff.1 hy).1; simpa using this
        have hfy : f i = y := by simpa [hi] using hy
        have q0 := (hf i hi).1
        rw [add_at, Nat.mul_one, hfy] at q0
        exact q0
    · intro y hy
      obtain ⟨i, hi, rfl⟩ := List.mem_map.1 hy
      exact (hf i (List.mem_range.1 hi)).2.1
    · rw [List.map_map]
      exact List.map_congr_left fun i hi => (hf i (List.mem_range.1 hi)).2.2
theorem open_nl {H : Type} {enc : TypeId × Value → H} {W : World} {fuel len cap : Nat} {a : Option Addr} {x : DataW H × List MemPlace} {cs : List Value} (h : DataW.trod enc Tryd.prog W 0 (fun _ => true) true fuel 23 cs = some x) (hcs0 : cs = [.slice a len cap]) :
    ∃ l : List Int, l.length = len ∧ len ≤ cap ∧ ILst W (.slice a len cap) l ∧ (∀ y ∈ l, -9223372036854775808 ≤ y ∧ y ≤ 9223372036854775807) ∧ ((x.1 = .nil ∧ len = 0) ∨ ∃ el sp, x.1 = .slice el sp ∧ el = l.map fun y => .lit (.int .i64 y)) := by
  subst hcs0
  rcases Deep.open_slice Tryd.underlying23 h with ⟨hcs, rfl⟩ | ⟨a', len', cap', m, n, D, Pl, hcs, hb, hl, hm, hmm, rfl, hx⟩
  · simp at hcs
    obtain ⟨rfl, rfl, rfl⟩ := hcs
    exact ⟨[], rfl, Nat.le_refl _, ILst.nil _ _, fun y hy => (by cases hy), .inl ⟨rfl, rfl⟩⟩
  · simp at hcs
    obtain ⟨rfl, rfl, rfl⟩ := hcs
    simp only [if_true] at hmm
    subst hmm
    rw [cells2] at hx
    have each : ∀ i, i < len → ∃ y : Int, W.cell? (a'.add (i * 1)) = some (.int .i64 y) ∧ (-9223372036854775808 ≤ y ∧ y ≤ 9223372036854775807) ∧ D i = .lit (.int .i64 y) := fun i hi => by
      obtain ⟨cs', h1, h2⟩ := hx i (by omega)
      obtain ⟨_, hlen, hcell⟩ := World.cells?_some h1
      obtain ⟨v0, rfl⟩ : ∃ v0, cs' = [v0] := by
        match cs', hlen with
        | [v0], _ => exact ⟨v0, rfl⟩
      obtain ⟨z0, e0, E0, hw⟩ := DataW.trod_int Tryd.underlying2 h2
      have d0 := hcell 0 (by omega)
      rw [Deep.add_add] at d0
      injection e0 with e0
      subst e0
      exact ⟨z0, d0, wf_int hw, congrArg Prod.fst E0⟩
    obtain ⟨f, hf⟩ := @Deep.choose_lt Int ⟨0⟩ _ _ each
    refine ⟨(List.range len).map f, by simp, hl, ?_, ?_, .inr ⟨_, _, rfl, ?_⟩⟩
    · by_cases hl0 : len = 0
      · subst hl0
        exact ⟨some a', 0, 0, m, rfl, fun h => absurd h (Nat.lt_irrefl 0), fun i x hx => by cases hx⟩
      · obtain ⟨b, off, spot⟩ := a'
        have hspot : spot = none := by simpa [Addr.add] using World.cell?_spot (hf 0 (by omega)).1
        subst hspot
        have hbW : b < W.heap.size := World.block_lt_of_cell? W _ (by have := (hf 0 (by omega)).1; rwa [add_at] at this)
        refine ⟨some ⟨b, off, none⟩, b, off, m, by simp, fun _ => ⟨hbW, rfl⟩, fun i y hy => ?_⟩
        have hi : i < len := by have := (List.getElem?_eq_some_iff.1 hy).1; simpa using this
        have hfy : f i = y := by simpa [hi] using hy
        have q0 := (hf i hi).1
        rw [add_at, Nat.mul_one, hfy] at q0
        exact q0
    · intro y hy
      obtain ⟨i, hi, rfl⟩ := List.mem_map.1 hy
      exact (hf i (List.mem_range.1 hi)).2.1
    · rw [List.map_map]
      exact List.map_congr_left fun i hi => (hf i (List.mem_range.1 hi)).2.2

set_option maxRecDepth 100000 in
theorem open_cd {H : Type} {enc : TypeId × Value → H} {W : World} {fuel len cap : Nat} {a : Option Addr} {x : DataW H × List MemPlace} {cs : List Value} (h : DataW.trod enc Tryd.prog W 0 (fun _ => true) true fuel 24 cs = some x) (hcs0 : cs = [.slice a len cap]) :
    ∃ l : List Ins, l.length = len ∧ ISt W (.slice a len cap) l ∧ (∀ y ∈ l, InB y) ∧ ((x.1 = .nil ∧ len = 0) ∨ ∃ el sp, x.1 = .slice el sp ∧ el.length = len) := by
  subst hcs0
  rcases Deep.open_slice Tryd.underlying24 h with ⟨hcs, rfl⟩ | ⟨a', len', cap', m, n, D, Pl, hcs, hb, hl, hm, hmm, rfl, hx⟩
  · simp at hcs
    obtain ⟨rfl, rfl, rfl⟩ := hcs
    exact ⟨[], rfl, ⟨none, 0, 0, 0, rfl, fun h => absurd h (Nat.lt_irrefl 0), fun i x hx => by cases hx⟩, fun y hy => (by cases hy), .inl ⟨rfl, rfl⟩⟩
  · simp at hcs
    obtain ⟨rfl, rfl, rfl⟩ := hcs
    simp only [if_true] at hmm
    subst hmm
    rw [cellsI] at hx
    have each : ∀ i, i < len → ∃ y : Ins, W.cell? (a'.add (i * 4)) = some (.int .i64 y.op) ∧ W.cell? (a'.add (i * 4 + 1)) = some (.int .i64 y.a) ∧ W.cell? (a'.add (i * 4 + 2)) = some (.int .i64 y.b) ∧ W.cell? (a'.add (i * 4 + 3)) = some (.int .i64 y.n) ∧ InB y := fun i hi => by
      obtain ⟨cs', h1, h2⟩ := hx i (by omega)
      obtain ⟨_, hlen, hcell⟩ := World.cells?_some h1
      obtain ⟨y0, y1, y2, y3, k, hxy, _, g0, g1, g2, g3⟩ := Go.Joins.trod_struct4 Tryd.underlying38 h2
      obtain ⟨v0, v1, v2, v3, rfl⟩ : ∃ v0 v1 v2 v3, cs' = [v0, v1, v2, v3] := by
        match cs', hlen with
        | [v0, v1, v2, v3], _ => exact ⟨v0, v1, v2, v3, rfl⟩
      have g0' : DataW.trod enc Tryd.prog W 0 (fun _ => true) true k 3 [v0] = some y0 := by simpa [cells3] using g0
      have g1' : DataW.trod enc Tryd.prog W 0 (fun _ => true) true k 3 [v1] = some y1 := by simpa [cells3] using g1
      have g2' : DataW.trod enc Tryd.prog W 0 (fun _ => true) true k 3 [v2] = some y2 := by simpa [cells3] using g2
      have g3' : DataW.trod enc Tryd.prog W 0 (fun _ => true) true k 2 [v3] = some y3 := by simpa [cells2] using g3
      obtain ⟨n0, e0, _, w0⟩ := DataW.trod_int Tryd.underlying3 g0'
      obtain ⟨n1, e1, _, w1⟩ := DataW.trod_int Tryd.underlying3 g1'
      obtain ⟨n2, e2, _, w2⟩ := DataW.trod_int Tryd.underlying3 g2'
      obtain ⟨n3, e3, _, w3⟩ := DataW.trod_int Tryd.underlying2 g3'
      have d0 := hcell 0 (by omega)
      have d1 := hcell 1 (by omega)
      have d2 := hcell 2 (by omega)
      have d3 := hcell 3 (by omega)
      rw [Deep.add_add] at d0 d1 d2 d3
      injection e0 with e0
      injection e1 with e1
      injection e2 with e2
      injection e3 with e3
      subst e0 e1 e2 e3
      exact ⟨⟨n0, n1, n2, n3⟩, d0, d1, d2, d3, (wf_int w1).1, (wf_int w1).2, (wf_int w2).1, (wf_int w2).2, (wf_int w3).1, (wf_int w3).2⟩
    obtain ⟨f, hf⟩ := @Deep.choose_lt Ins ⟨⟨0, 0, 0, 0⟩⟩ _ _ each
    refine ⟨(List.range len).map f, by simp, ?_, fun y hy => ?_, .inr ⟨_, _, rfl, by simp⟩⟩
    · by_cases hl0 : len = 0
      · subst hl0
        exact ⟨some a', 0, 0, m, rfl, fun h => absurd h (Nat.lt_irrefl 0), fun i x hx => by cases hx⟩
      · obtain ⟨b, off, spot⟩ := a'
        have hspot : spot = none := by simpa [Addr.add] using World.cell?_spot (hf 0 (by omega)).1
        subst hspot
        have hbW : b < W.heap.size := World.block_lt_of_cell? W _ (by have := (hf 0 (by omega)).1; rwa [add_at] at this)
        refine ⟨some ⟨b, off, none⟩, b, off, m, by simp, fun _ => ⟨hbW, rfl⟩, fun i y hy => ?_⟩
        have hi : i < len := by have := (List.getElem?_eq_some_iff.1 hy).1; simpa using this
        have hfy : f i = y := by simpa [hi] using hy
        obtain ⟨q0, q1, q2, q3, _⟩ := hf i hi
        rw [add_at, hfy] at q0 q1 q2 q3
        exact ⟨q0, q1, q2, q3⟩
    · obtain ⟨i, hi, rfl⟩ := List.mem_map.1 hy
      exact (hf i (List.mem_range.1 hi)).2.2.2.2
theorem slice_shape {H : Type} {enc : TypeId × Value → H} {W : World} {fuel : Nat} {v : Value} {x : DataW H × List MemPlace} {t e : TypeId} (hu : Tryd.prog.underlying t = some (.slice e)) (h : DataW.trod enc Tryd.prog W 0 (fun _ => true) true fuel t [v] = some x) : ∃ a l c, v = .slice a l c := by
  rcases Deep.open_slice hu h with ⟨q, _⟩ | ⟨a', len', cap', m, n, D, Pl, q, _⟩
  · simp at q; exact ⟨_, _, _, q⟩
  · simp at q; exact ⟨_, _, _, q⟩
theorem cellsX : Tryd.prog.cellsOf 26 = 6 := by kernel_rfl
theorem cellsSI : Tryd.prog.cellsOf 22 = 1 := by kernel_rfl
theorem cellsSN : Tryd.prog.cellsOf 23 = 1 := by kernel_rfl
theorem cellsSC : Tryd.prog.cellsOf 24 = 1 := by kernel_rfl
theorem len_sized {H : Type} {ts : List TypeId} {ds : List (DataW H)} {j len : Nat} {t e : TypeId} {d : DataW H} (h : (DataW.weightsEach Tryd.prog ts ds).all (· ≤ reachBytes) = true) (ht : ts[j]? = some t) (hd : ds[j]? = some d) (hu : Tryd.prog.underlying t = some (.slice e)) (hw : (d = .nil ∧ len = 0) ∨ ∃ el sp, d = .slice el sp ∧ el.length = len) : len * Tryd.prog.bytesOf e ≤ 140737488351232 := by
  have hr : reachBytes = 140737488351232 := by decide
  rcases hw with ⟨_, rfl⟩ | ⟨el, sp, rfl, rfl⟩
  · simp
  · have h1 := sized_slice h ht hd hu
    rw [hr, Nat.add_mul] at h1
    omega
set_option maxRecDepth 100000 in
theorem open_img {H : Type} {enc : TypeId × Value → H} {W : World} {r : Reach} {b0 : Nat} {v : Value} {d : DataW H} {ps : List MemPlace} {ts : List TypeId} {ds : List (DataW H)} {j : Nat} (hv : Value.okWide Tryd.prog W r b0 26 v) (h : DataW.Trod enc Tryd.prog W 0 (fun _ => true) true 26 v d ps) (hsz : (DataW.weightsEach Tryd.prog ts ds).all (· ≤ reachBytes) = true) (ht : ts[j]? = some 26) (hd : ds[j]? = some d) :
    ∃ nm tv fv iv ov cv x, v = .agg #[nm, tv, fv, iv, ov, cv] ∧ Im W nm tv fv iv ov cv x ∧ (∀ a n c, tv = .slice a n c → n ≤ c) ∧ ImL x ∧ x.name.length ≤ 140737488351232 ∧ (∀ y ∈ x.cd, InB y) := by
  obtain ⟨cs, rfl, hcz⟩ := okWide_struct Tryd.underlying26 hv
  obtain ⟨fuel, hf⟩ := h
  obtain ⟨xs, n, _, hx, hl, hlen, hfl⟩ := DataW.trod_struct Tryd.underlying26 hf
  obtain ⟨c0, c1, c2, c3, c4, c5, rfl⟩ : ∃ c0 c1 c2 c3 c4 c5, cs = #[c0, c1, c2, c3, c4, c5] := by
    have h6 := hcz.trans cellsX
    obtain ⟨l⟩ := cs
    match l, h6 with
    | [c0, c1, c2, c3, c4, c5], _ => exact ⟨c0, c1, c2, c3, c4, c5, rfl⟩
  obtain ⟨y0, y1, y2, y3, y4, y5, rfl⟩ : ∃ y0 y1 y2 y3 y4 y5, xs = [y0, y1, y2, y3, y4, y5] := by
    match xs, hlen with
    | [y0, y1, y2, y3, y4, y5], _ => exact ⟨y0, y1, y2, y3, y4, y5, rfl⟩
  have g0 : DataW.trod enc Tryd.prog W 0 (fun _ => true) true n 9 [c0] = some y0 := by simpa [Value.cells, cells9] using hfl 0 _ rfl
  have g1 : DataW.trod enc Tryd.prog W 0 (fun _ => true) true n 22 [c1] = some y1 := by simpa [Value.cells, cellsSI] using hfl 1 _ rfl
  have g2 : DataW.trod enc Tryd.prog W 0 (fun _ => true) true n 23 [c2] = some y2 := by simpa [Value.cells, cellsSN] using hfl 2 _ rfl
  have g3 : DataW.trod enc Tryd.prog W 0 (fun _ => true) true n 22 [c3] = some y3 := by simpa [Value.cells, cellsSI] using hfl 3 _ rfl
  have g4 : DataW.trod enc Tryd.prog W 0 (fun _ => true) true n 22 [c4] = some y4 := by simpa [Value.cells, cellsSI] using hfl 4 _ rfl
  have g5 : DataW.trod enc Tryd.prog W 0 (fun _ => true) true n 24 [c5] = some y5 := by simpa [Value.cells, cellsSC] using hfl 5 _ rfl
  obtain ⟨s, e0, rfl, _⟩ := DataW.trod_string Tryd.underlying9 g0
  obtain rfl : c0 = .string s := by simpa using e0
  obtain ⟨a1, n1, k1, rfl⟩ := slice_shape Tryd.underlying22 g1
  obtain ⟨a2, n2, k2, rfl⟩ := slice_shape Tryd.underlying23 g2
  obtain ⟨a3, n3, k3, rfl⟩ := slice_shape Tryd.underlying22 g3
  obtain ⟨a4, n4, k4, rfl⟩ := slice_shape Tryd.underlying22 g4
  obtain ⟨a5, n5, k5, rfl⟩ := slice_shape Tryd.underlying24 g5
  obtain ⟨l1, p1, q1, L1, _, w1⟩ := open_il g1 rfl
  obtain ⟨l2, p2, _, L2, _, w2⟩ := open_nl g2 rfl
  obtain ⟨l3, p3, _, L3, _, w3⟩ := open_il g3 rfl
  obtain ⟨l4, p4, _, L4, _, w4⟩ := open_il g4 rfl
  obtain ⟨l5, p5, L5, I5, w5⟩ := open_cd g5 rfl
  have hd' : d = .agg [.lit (.string s.data.toList), y1.1, y2.1, y3.1, y4.1, y5.1] := congrArg Prod.fst hx
  subst hd'
  have hin : (DataW.weightsEach Tryd.prog [9, 22, 23, 22, 22, 24] [.lit (.string s.data.toList), y1.1, y2.1, y3.1, y4.1, y5.1]).all (· ≤ reachBytes) = true := List.all_eq_true.2 fun k hk => List.all_eq_true.1 hsz k (DataW.weights_mem_each ht hd k (by
    simp only [DataW.weights, Tryd.underlying26]; exact hk))
  have lw : ∀ {l : List Int} {len : Nat} {y : DataW H × List MemPlace}, ((y.1 = .nil ∧ len = 0) ∨ ∃ el sp, y.1 = .slice el sp ∧ el = l.map fun z => .lit (.int .i64 z)) → l.length = len → (y.1 = .nil ∧ len = 0) ∨ ∃ el sp, y.1 = .slice el sp ∧ el.length = len := fun hw hp => by
    rcases hw with hw | ⟨el, sp, e1, e2⟩
    · exact .inl hw
    · exact .inr ⟨el, sp, e1, by rw [e2, List.length_map, hp]⟩
  have z1 := len_sized hin (j := 1) rfl rfl Tryd.underlying22 (lw w1 p1)
  have z2 := len_sized hin (j := 2) rfl rfl Tryd.underlying23 (lw w2 p2)
  have z3 := len_sized hin (j := 3) rfl rfl Tryd.underlying22 (lw w3 p3)
  have z4 := len_sized hin (j := 4) rfl rfl Tryd.underlying22 (lw w4 p4)
  have z5 := len_sized hin (j := 5) rfl rfl Tryd.underlying24 w5
  have z0 := sized_string hin (j := 0) rfl rfl
  have hr : reachBytes = 140737488351232 := by decide
  rw [bytes3] at z1 z3 z4
  rw [bytes2] at z2
  rw [bytesI] at z5
  refine ⟨_, _, _, _, _, _, ⟨s.data.toList, l1, l2, l3, l4, l5⟩, rfl, ⟨by cases s; rfl, L1, L2, L3, L4, L5⟩, fun a n c e => by injection e with _ e1 e2; omega, ⟨?_, ?_, ?_, ?_, ?_⟩, by rw [hr] at z0; exact z0, I5⟩
  · show l1.length ≤ _; omega
  · show l2.length ≤ _; omega
  · show l3.length ≤ _; omega
  · show l4.length ≤ _; omega
  · show l5.length ≤ _; omega
end Go.Proofs.YtlckedionmgjjaaDoor
namespace Go.Proofs.YtlckedionmgjjaaDoor
open Go.RowKit
open Extern.Stop (cell)
/-- many cells of a list set -/
def setsL : List Value → Nat → List Value → List Value
  | cs, _, [] => cs
  | cs, o, v :: r => setsL (cs.set o v) (o + 1) r
theorem setsL_length : ∀ (vs cs : List Value) (o : Nat), (setsL cs o vs).length = cs.length
  | [], _, _ => rfl
  | v :: r, cs, o => by show (setsL (cs.set o v) (o + 1) r).length = _; rw [setsL_length r, List.length_set]
theorem setsL_get : ∀ (vs cs : List Value) (o i : Nat), i < cs.length → (setsL cs o vs)[i]? = if o ≤ i ∧ i < o + vs.length then vs[i - o]? else cs[i]?
  | [], cs, o, i, _ => by rw [if_neg (by simp)]; rfl
  | v :: r, cs, o, i, hi => by
    show (setsL (cs.set o v) (o + 1) r)[i]? = _
    rw [setsL_get r _ _ i (by rw [List.length_set]; exact hi)]
    by_cases h : o + 1 ≤ i ∧ i < o + 1 + r.length
    · rw [if_pos h, if_pos (by simp; omega), show i - o = (i - (o + 1)) + 1 by omega, List.getElem?_cons_succ]
    · rw [if_neg h, List.getElem?_set]
      by_cases e : o = i
      · rw [if_pos e, if_pos (by omega), if_pos (by simp; omega), ← e, Nat.sub_self, List.getElem?_cons_zero]
      · rw [if_neg e, if_neg (by simp; omega)]
theorem Ob.sets {g : Nat} {T : TypeId} : ∀ (vs : List Value) {w : World} {cs : List Value} (o : Nat), Ob w g T cs → Ob (w.setCells g o vs) g T (setsL cs o vs)
  | [], _, _, _, h => h
  | v :: r, _, _, o, h => by
    rw [World.setCells]
    exact Ob.sets r (o + 1) (h.set o v)
theorem But.sets {R : Nat} : ∀ (vs : List Value) {w w' : World} (o : Nat), But R w w' → But R w (w'.setCells R o vs)
  | [], _, _, _, h => h
  | v :: r, _, _, o, h => by
    rw [World.setCells]
    exact But.sets r (o + 1) (h.set o v)
theorem Ob.there {w : World} {g : Nat} {T : TypeId} {cs : List Value} (h : Ob w g T cs) (o n : Nat) (hn : o + n ≤ cs.length) : w.there g o n := fun j hj => by
  refine ⟨?_, h.fr _⟩
  rw [h.cell (o + j) (List.getElem?_eq_getElem (by omega))]; rfl
theorem Ob.range {w : World} {g : Nat} {T : TypeId} {cs : List Value} (h : Ob w g T cs) (o : Nat) (xs : List Value) (hx : ∀ j v, xs[j]? = some v → cs[o + j]? = some v) : w.rangeAt g o xs := fun j v hv => h.cell (o + j) (hx j v hv)
/-- the stacks that places are reached with, as cells -/
def ahdC (n : Nat) (rs : List (Option Stk)) : List Value := (List.range (65 * n)).map fun i => (encS ((rs.getD (i / 65) none).getD [])).getD (i % 65) undef
theorem ahdC_length (n : Nat) (rs : List (Option Stk)) : (ahdC n rs).length = 65 * n := by simp [ahdC]
theorem ahdC_get (n : Nat) (rs : List (Option Stk)) (k r : Nat) (hk : k < n) (hr : r < 65) : (ahdC n rs)[k * 65 + r]? = (encS ((rs.getD k none).getD []))[r]? := by
  unfold ahdC
  rw [List.getElem?_map, List.getElem?_range (by omega)]
  have e1 : (k * 65 + r) / 65 = k := by omega
  have e2 : (k * 65 + r) % 65 = r := by omega
  simp only [Option.map_some, e1, e2]
  rw [List.getD_eq_getElem?_getD, List.getElem?_eq_getElem (by rw [encS_length]; exact hr)]; rfl
theorem ahdC_set (n : Nat) (rs : List (Option Stk)) (k : Nat) (s : Stk) (hk : k < n) (hn : rs.length = n) : setsL (ahdC n rs) (k * 65) (encS s) = ahdC n (rs.set k (some s)) := by
  refine List.ext_getElem? fun i => ?_
  by_cases hi : i < 65 * n
  · rw [setsL_get _ _ _ _ (by rw [ahdC_length]; exact hi), encS_length]
    obtain ⟨q, r, hr, rfl⟩ : ∃ q r, r < 65 ∧ i = q * 65 + r := ⟨i / 65, i % 65, by omega, by omega⟩
    rw [ahdC_get n rs q r (by omega) hr, ahdC_get n _ q r (by omega) hr, getD_set]
    by_cases e : k = q
    · subst e
      rw [if_pos (by omega), if_pos (by omega), Nat.add_sub_cancel_left]; rfl
    · rw [if_neg (by omega), if_neg (by omega)]
  · rw [List.getElem?_eq_none (by rw [setsL_length, ahdC_length]; omega), List.getElem?_eq_none (by rw [ahdC_length]; omega)]
def rchC (rs : List (Option Stk)) : List Value := rs.map fun o => .bool o.isSome
theorem rchC_get (rs : List (Option Stk)) (k : Nat) (hk : k < rs.length) : (rchC rs)[k]? = some (.bool (rs.getD k none).isSome) := by
  unfold rchC
  rw [List.getElem?_map, List.getD_eq_getElem?_getD, List.getElem?_eq_getElem hk]; rfl
theorem rchC_set (rs : List (Option Stk)) (k : Nat) (s : Stk) : (rchC rs).set k (.bool true) = rchC (rs.set k (some s)) := by
  unfold rchC; rw [List.map_set]; rfl
/-- a walk in memory -/
structure WM (n g g1 g2 : Nat) (xs : List Value) (m : Vs) (w : World) : Prop where
  ob : Ob w g 55 (encW (xs ++ [.slice (some ⟨g1, 0, none⟩) n n, .slice (some ⟨g2, 0, none⟩) n n]) m.wt m.dp)
  rch : Ob w g1 4 (rchC m.rs)
  ahd : Ob w g2 76 (ahdC n m.rs)
  good : GoodS n m
  len : n ≤ 4096
  n0 : 0 < n
  xs : xs.length = 6
  lo : 2 < g ∧ 2 < g1 ∧ 2 < g2
  ne : g ≠ g1 ∧ g ≠ g2 ∧ g1 ≠ g2
/-- nothing that was there is another but the walk's three blocks -/
structure Kp (g g1 g2 : Nat) (w w' : World) : Prop where
  os : w'.os = w.os
  tape : w'.tape = w.tape
  output : w'.output = w.output
  size : w.heap.size ≤ w'.heap.size
  block : ∀ k, k < w.heap.size → k ≠ g → k ≠ g1 → k ≠ g2 → w'.heap[k]? = w.heap[k]?
theorem Kp.refl (g g1 g2 : Nat) (w : World) : Kp g g1 g2 w w := ⟨rfl, rfl, rfl, Nat.le_refl _, fun _ _ _ _ _ => rfl⟩
theorem Kp.trans {g g1 g2 : Nat} {a b c : World} (h : Kp g g1 g2 a b) (k : Kp g g1 g2 b c) : Kp g g1 g2 a c :=
  ⟨k.os.trans h.os, k.tape.trans h.tape, k.output.trans h.output, Nat.le_trans h.size k.size, fun i hi h1 h2 h3 => (k.block i (Nat.lt_of_lt_of_le hi h.size) h1 h2 h3).trans (h.block i hi h1 h2 h3)⟩
theorem Kp.of_below {g g1 g2 : Nat} {w w' : World} (h : Below w.heap.size w w') : Kp g g1 g2 w w' := ⟨h.os, h.tape, h.output, h.size, fun k hk _ _ _ => h.block k hk⟩
theorem Kp.of_but {g g1 g2 R : Nat} {w w' : World} (h : But R w w') (hR : R = g ∨ R = g1 ∨ R = g2 ∨ w.heap.size ≤ R) : Kp g g1 g2 w w' :=
  ⟨h.os, h.tape, h.output, h.size, fun k hk h1 h2 h3 => h.block k hk (fun e => by have := Option.some.inj e; omega)⟩
theorem Kp.below {g g1 g2 B : Nat} {w w' : World} (h : Kp g g1 g2 w w') (hB : B ≤ g ∧ B ≤ g1 ∧ B ≤ g2) (hs : B ≤ w.heap.size) : Below B w w' :=
  ⟨h.os, h.tape, h.output, h.size, fun k hk => h.block k (by omega) (by omega) (by omega) (by omega)⟩
theorem Kp.ob {g g1 g2 b : Nat} {w w' : World} (h : Kp g g1 g2 w w') {T : TypeId} {cs : List Value} (hb : Ob w b T cs) (hn : b ≠ g ∧ b ≠ g1 ∧ b ≠ g2) : Ob w' b T cs := (h.block b hb.lt hn.1 hn.2.1 hn.2.2).trans hb
theorem Kp.alloc {g g1 g2 : Nat} {w w' : World} (h : Kp g g1 g2 w w') (o : Obj) : Kp g g1 g2 w (w'.alloc o) := h.trans (Kp.of_below ((Below.refl _ _).alloc (Nat.le_refl _) _))
theorem Kp.drewN {g g1 g2 : Nat} {w w' : World} (h : Kp g g1 g2 w w') (n : Nat) : Kp g g1 g2 w (w'.drewN n) := ⟨h.os, h.tape, h.output, h.size, h.block⟩
/-- where a world has the three blocks as they were, the walk is as it was -/
theorem WM.on {n g g1 g2 : Nat} {xs : List Value} {m : Vs} {w w' : World} (h : WM n g g1 g2 xs m w) (hb : Below w.heap.size w w') : WM n g g1 g2 xs m w' :=
  ⟨h.ob.on hb h.ob.lt, h.rch.on hb h.rch.lt, h.ahd.on hb h.ahd.lt, h.good, h.len, h.n0, h.xs, h.lo, h.ne⟩
theorem WM.but {n g g1 g2 R : Nat} {xs : List Value} {m : Vs} {w w' : World} (h : WM n g g1 g2 xs m w) (hb : But R w w') (hR : R ≠ g ∧ R ≠ g1 ∧ R ≠ g2) : WM n g g1 g2 xs m w' :=
  ⟨hb.ob h.ob (fun e => hR.1 e.symm), hb.ob h.rch (fun e => hR.2.1 e.symm), hb.ob h.ahd (fun e => hR.2.2 e.symm), h.good, h.len, h.n0, h.xs, h.lo, h.ne⟩
/-- two stacks compared as arrays -/
def bytS (s : Stk) : List UInt8 := (List.range 64).map fun i => UInt8.ofNat (s.getD i 0).toNat
def typC (s : Stk) : List Value := (List.range 64).map fun i => .int .u8 (s.getD i 0)
theorem typC_get (s : Stk) (i : Nat) (h : i < 64) : (typC s)[i]? = (encS s)[i]? := by
  rw [encS_get s i h]
  unfold typC
  rw [List.getElem?_map, List.getElem?_range h]; rfl
theorem okS_get {s : Stk} (h : OkS s) (i : Nat) : 0 ≤ s.getD i 0 ∧ s.getD i 0 ≤ 4 := by
  rw [List.getD_eq_getElem?_getD]
  cases e : s[i]? with
  | none => simp
  | some t => have := h.ty t (List.mem_of_getElem? e); simp; omega
theorem typC_cell {s : Stk} (h : OkS s) : typC s = (bytS s).map cell := by
  unfold typC bytS
  rw [List.map_map]
  refine List.map_congr_left fun i _ => ?_
  have := okS_get h i
  simp only [Function.comp, cell]
  congr 1
  rw [UInt8.toNat_ofNat', Nat.mod_eq_of_lt (by omega)]
  exact (Int.toNat_of_nonneg this.1).symm
theorem bytS_eq {s t : Stk} (hs : OkS s) (ht : OkS t) : (bytS s == bytS t) = decide (s = t) := by
  by_cases h : s = t
  · subst h; simp
  · rw [decide_eq_false h]
    refine beq_eq_false_iff_ne.2 fun e => h ?_
    have each : ∀ i, i < 64 → s.getD i 0 = t.getD i 0 := fun i hi => by
      have := congrArg (·[i]?) e
      simp only [bytS, List.getElem?_map, List.getElem?_range hi, Option.map_some, Option.some.injEq] at this
      have h2 := congrArg UInt8.toNat this
      rw [UInt8.toNat_ofNat', UInt8.toNat_ofNat'] at h2
      have := okS_get hs i
      have := okS_get ht i
      omega
    have hl : s.length = t.length := by
      rcases Nat.lt_trichotomy s.length t.length with hlt | he | hlt
      · have := each s.length (by have := ht.len; omega)
        rw [List.getD_eq_getElem?_getD, List.getD_eq_getElem?_getD, List.getElem?_eq_none (Nat.le_refl _), List.getElem?_eq_getElem hlt] at this
        have h2 := ht.ty _ (List.getElem_mem hlt)
        simp at this; omega
      · exact he
      · have := each t.length (by have := hs.len; omega)
        rw [List.getD_eq_getElem?_getD, List.getD_eq_getElem?_getD, List.getElem?_eq_none (Nat.le_refl t.length), List.getElem?_eq_getElem hlt] at this
        have h2 := hs.ty _ (List.getElem_mem hlt)
        simp at this; omega
    refine List.ext_getElem hl fun i h1 h2 => ?_
    have := each i (by have := hs.len; omega)
    rw [List.getD_eq_getElem?_getD, List.getD_eq_getElem?_getD, List.getElem?_eq_getElem h1, List.getElem?_eq_getElem h2] at this
    exact this
theorem size5 : (Tryd.prog.info? 5).map (·.size) = some 1 := by kernel_rfl
theorem sizeOf5 (w : World) : (sizeOf 5).run Tryd.prog w = .ok 1 w := by
  have h := size5
  cases hq : Tryd.prog.info? 5 with
  | none => rw [hq] at h; cases h
  | some i =>
    rw [hq] at h
    have : i.size = 1 := by simpa using h
    simp [sizeOf, typeInfo, hq, this]
theorem eq74 {s t : Stk} (hs : OkS s) (ht : OkS t) (w : World) : (binOp .eql 74 (.agg (typC s).toArray) (.agg (typC t).toArray)).run Tryd.prog w = .ok (.bool (decide (s = t))) w := by
  rw [typC_cell hs, typC_cell ht, run_eql_bytes w 74 5 64 Tryd.underlying74 Tryd.underlying5 sizeOf5 (bytS s) (bytS t) (by simp [bytS]) (by simp [bytS]), bytS_eq hs ht]
end Go.Proofs.YtlckedionmgjjaaDoor
namespace Go.Proofs.YtlckedionmgjjaaDoor
theorem tkH {P : Program} {ops : Array Oper} {Q : Exit → Act → World → Prop} {md : Region.Mode} {S : World → Prop} (i : Nat) {d : Option Tmp} {o : Op} {t : TypeId} {p : String} {f : Array Edge} {fuel : Nat} {listed : Array Bool} {a : Act} {w : World} (v : Value) (hS : S w)
    (h : wpAnyH P md ops Q S fuel (listed.setIfInBounds i true) (a.put d v) w) (hi : ops[i]? = some ⟨d, o, t, p, f, none⟩ := by rfl) (hs : Region.noSelect ops = true := by kernel_rfl) (hf : Region.free md ops listed i = true := by kernel_rfl)
    (hr : (Region.ready md ops listed).contains i = true := by kernel_rfl) (hQ : ∀ c a w, Q (.panic c) (a.put d v) w → Q (.panic c) a w := by exact fun _ _ _ h => h) (hy : YieldsIf P ops S ⟨d, o, t, p, f, none⟩ v a := by exact Or.inl ⟨by rfl, fun W hW => by ((try dsimp only at hW); go_simp)⟩) :
    wpAnyH P md ops Q S (fuel + 1) listed a w := wpAnyH_take hi hs hf hr hQ hy hS h
theorem rdH {P : Program} {ops : Array Oper} {Q : Exit → Act → World → Prop} {md : Region.Mode} {S : World → Prop} (i : Nat) {d : Option Tmp} {o : Op} {t : TypeId} {p : String} {f : Array Edge} {fuel : Nat} {listed : Array Bool} {a : Act} {w : World}
    (h : ∀ K' : Act → World → Prop, Shut (∀ a w, S w → (S w → wpAnyH P md ops Q S fuel (listed.setIfInBounds i true) a w) → K' a w) → if Region.wanted (⟨d, o, t, p, f, none⟩ : Oper) (yielded ops a.tmps) = true then Oper.wp P ⟨d, o, t, p, f, none⟩ a w K' Q else K' (a.put d undef) w)
    (hi : ops[i]? = some ⟨d, o, t, p, f, none⟩ := by rfl) (hr : Region.ready md ops listed = [i] := by kernel_rfl) : wpAnyH P md ops Q S (fuel + 1) listed a w :=
  wpAnyH_ready hr (by simp) (AllReadyH.cons hi h AllReadyH.nil)
end Go.Proofs.YtlckedionmgjjaaDoor
