/- An image among the arguments, opened. | An image among the arguments, opened, with its bulk. -/
import Derived.Test.YtmbgcpmapaedcaaGreatDoorMg13
import Derived.Test.YtmbgcpmapaedcaaGreatDoorMg11
import Derived.Deep.Slices
import Derived.LaidLaws
import Derived.SizedLaws
import Derived.ChangeSame
import Derived.Test.YtmbgcpmapaedcaaGreatDoorRows
namespace Go.Proofs.YtmbgcpmapaedcaaGreatDoor
open Go.ChangeShapes Go.WideShapes Go.ChangeAt Go.RowKit
theorem laidOut : laidOutB Tryz.prog = true := by kernel_rfl
theorem bytes3 : Tryz.prog.bytesOf 3 = 8 := by kernel_rfl
theorem bytes2 : Tryz.prog.bytesOf 2 = 8 := by kernel_rfl
theorem bytesI : Tryz.prog.bytesOf 41 = 32 := by kernel_rfl
theorem add_at (b off j : Nat) : (⟨b, off, none⟩ : Addr).add j = ⟨b, off + j, none⟩ := by unfold Addr.add; split <;> simp_all
theorem wf_int {n : Int} (hw : (Lit.int .i64 n).wf = true) : -9223372036854775808 ≤ n ∧ n ≤ 9223372036854775807 := by
  have h : (decide (IntKind.i64.min ≤ n) && decide (n ≤ IntKind.i64.max)) = true := hw
  rw [Bool.and_eq_true] at h
  exact ⟨of_decide_eq_true h.1, of_decide_eq_true h.2⟩
theorem open_il {H : Type} {enc : TypeId × Value → H} {W : World} {fuel len cap : Nat} {a : Option Addr} {x : DataW H × List MemPlace} {cs : List Value} (h : DataW.trod enc Tryz.prog W 0 (fun _ => true) true fuel 22 cs = some x) (hcs0 : cs = [.slice a len cap]) :
    ∃ l : List Int, l.length = len ∧ len ≤ cap ∧ ILst W (.slice a len cap) l ∧ (∀ y ∈ l, -9223372036854775808 ≤ y ∧ y ≤ 9223372036854775807) ∧ ((x.1 = .nil ∧ len = 0) ∨ ∃ el sp, x.1 = .slice el sp ∧ el = l.map fun y => .lit (.int .i64 y)) := by
  subst hcs0
  rcases Deep.open_slice Tryz.underlying22 h with ⟨hcs, rfl⟩ | ⟨a', len', cap', m, n, D, Pl, hcs, hb, hl, hm, hmm, rfl, hx⟩
  · simp at hcs
    obtain ⟨rfl, rfl, rfl⟩ := hcs
    exact ⟨[], rfl, Nat.le_refl _, ILst.nil _ _, fun y hy => (by cases hy), .inl ⟨rfl, rfl⟩⟩
  · simp at hcs
    obtain ⟨rfl, rfl, rfl⟩ := hcs
    simp only [if_true] at hmm
    subst hmm
    rw [cells3] at hx
    have each : ∀ i, i < len → ∃ y : Int, W.cell? (a'.add (i * 1)) = some (.int .i64 y) ∧ (-9223372036854775808 ≤ y ∧ y ≤ 9223372036854775807) ∧ D i = .lit (.int .i64 y) := fun i hi => by
      obtain ⟨cs', h1, h2⟩ := hx i (by omega)
      obtain ⟨_, hlen, hcell⟩ := World.cells?_some h1
      obtain ⟨v0, rfl⟩ : ∃ v0, cs' = [v0] := by
        match cs', hlen with
        | [v0], _ => exact ⟨v0, rfl⟩
      obtain ⟨z0, e0, E0, hw⟩ := DataW.trod_int Tryz.underlying3 h2
      have d0 := hcell 0 (by omega)
      rw [Deep.add_add] at d0
      injection e0 with e0
      subst e0
      exact ⟨z0, d0, wf_int hw, congrArg Prod.fst E0⟩
    obtain ⟨f, hf⟩ := @Deep.choose_lt Int ⟨0⟩ _ _ each
    refine ⟨(List.range len).map f, by simp, hl, ?_, ?_, .inr ⟨_, _, rfl, ?_⟩⟩
    · by_cases hl0 : len = 0
      · subst hl0
        exact ⟨some a', 0, 0, m, rfl, fun h => absurd h (Nat.lt_irrefl 0), fun i x hx => by cases hx⟩
      · obtain ⟨b, off, spot⟩ := a'
        have hspot : spot = none := by simpa [Addr.add] using World.cell?_spot (hf 0 (by omega)).1
        subst hspot
        have hbW : b < W.heap.size := World.block_lt_of_cell? W _ (by have := (hf 0 (by omega)).1; rwa [add_at] at this)
        refine ⟨some ⟨b, off, none⟩, b, off, m, by simp, fun _ => ⟨hbW, rfl⟩, fun i y hy => ?_⟩
        have hi : i < len := by have := (List.getElem?_eq_some_iff.1 hy).1; simpa using this
        have hfy : f i = y := by simpa [hi] using hy
        have q0 := (hf i hi).1
        rw [add_at, Nat.mul_one, hfy] at q0
        exact q0
    · intro y hy
      obtain ⟨i, hi, rfl⟩ := List.mem_map.1 hy
      exact (hf i (List.mem_range.1 hi)).2.1
    · rw [List.map_map]
      exact List.map_congr_left fun i hi => (hf i (List.mem_range.1 hi)).2.2
theorem open_nl {H : Type} {enc : TypeId × Value → H} {W : World} {fuel len cap : Nat} {a : Option Addr} {x : DataW H × List MemPlace} {cs : List Value} (h : DataW.trod enc Tryz.prog W 0 (fun _ => true) true fuel 23 cs = some x) (hcs0 : cs = [.slice a len cap]) :
    ∃ l : List Int, l.length = len ∧ len ≤ cap ∧ ILst W (.slice a len cap) l ∧ (∀ y ∈ l, -9223372036854775808 ≤ y ∧ y ≤ 9223372036854775807) ∧ ((x.1 = .nil ∧ len = 0) ∨ ∃ el sp, x.1 = .slice el sp ∧ el = l.map fun y => .lit (.int .i64 y)) := by
  subst hcs0
  rcases Deep.open_slice Tryz.underlying23 h with ⟨hcs, rfl⟩ | ⟨a', len', cap', m, n, D, Pl, hcs, hb, hl, hm, hmm, rfl, hx⟩
  · simp at hcs
    obtain ⟨rfl, rfl, rfl⟩ := hcs
    exact ⟨[], rfl, Nat.le_refl _, ILst.nil _ _, fun y hy => (by cases hy), .inl ⟨rfl, rfl⟩⟩
  · simp at hcs
    obtain ⟨rfl, rfl, rfl⟩ := hcs
    simp only [if_true] at hmm
    subst hmm
    rw [cells2] at hx
    have each : ∀ i, i < len → ∃ y : Int, W.cell? (a'.add (i * 1)) = some (.int .i64 y) ∧ (-9223372036854775808 ≤ y ∧ y ≤ 9223372036854775807) ∧ D i = .lit (.int .i64 y) := fun i hi => by
      obtain ⟨cs', h1, h2⟩ := hx i (by omega)
      obtain ⟨_, hlen, hcell⟩ := World.cells?_some h1
      obtain ⟨v0, rfl⟩ : ∃ v0, cs' = [v0] := by
        match cs', hlen with
        | [v0], _ => exact ⟨v0, rfl⟩
      obtain ⟨z0, e0, E0, hw⟩ := DataW.trod_int Tryz.underlying2 h2
      have d0 := hcell 0 (by omega)
      rw [Deep.add_add] at d0
      injection e0 with e0
      subst e0
      exact ⟨z0, d0, wf_int hw, congrArg Prod.fst E0⟩
    obtain ⟨f, hf⟩ := @Deep.choose_lt Int ⟨0⟩ _ _ each
    refine ⟨(List.range len).map f, by simp, hl, ?_, ?_, .inr ⟨_, _, rfl, ?_⟩⟩
    · by_cases hl0 : len = 0
      · subst hl0
        exact ⟨some a', 0, 0, m, rfl, fun h => absurd h (Nat.lt_irrefl 0), fun i x hx => by cases hx⟩
      · obtain ⟨b, off, spot⟩ := a'
        have hspot : spot = none := by simpa [Addr.add] using World.cell?_spot (hf 0 (by omega)).1
        subst hspot
        have hbW : b < W.heap.size := World.block_lt_of_cell? W _ (by have := (hf 0 (by omega)).1; rwa [add_at] at this)
        refine ⟨some ⟨b, off, none⟩, b, off, m, by simp, fun _ => ⟨hbW, rfl⟩, fun i y hy => ?_⟩
        have hi : i < len := by have := (List.getElem?_eq_some_iff.1 hy).1; simpa using this
        have hfy : f i = y := by simpa [hi] using hy
        have q0 := (hf i hi).1
        rw [add_at, Nat.mul_one, hfy] at q0
        exact q0
    · intro y hy
      obtain ⟨i, hi, rfl⟩ := List.mem_map.1 hy
      exact (hf i (List.mem_range.1 hi)).2.1
    · rw [List.map_map]
      exact List.map_congr_left fun i hi => (hf i (List.mem_range.1 hi)).2.2

set_option maxRecDepth 100000 in
theorem open_cd {H : Type} {enc : TypeId × Value → H} {W : World} {fuel len cap : Nat} {a : Option Addr} {x : DataW H × List MemPlace} {cs : List Value} (h : DataW.trod enc Tryz.prog W 0 (fun _ => true) true fuel 24 cs = some x) (hcs0 : cs = [.slice a len cap]) :
    ∃ l : List Ins, l.length = len ∧ ISt W (.slice a len cap) l ∧ (∀ y ∈ l, InB y) ∧ ((x.1 = .nil ∧ len = 0) ∨ ∃ el sp, x.1 = .slice el sp ∧ el.length = len) := by
  subst hcs0
  rcases Deep.open_slice Tryz.underlying24 h with ⟨hcs, rfl⟩ | ⟨a', len', cap', m, n, D, Pl, hcs, hb, hl, hm, hmm, rfl, hx⟩
  · simp at hcs
    obtain ⟨rfl, rfl, rfl⟩ := hcs
    exact ⟨[], rfl, ⟨none, 0, 0, 0, rfl, fun h => absurd h (Nat.lt_irrefl 0), fun i x hx => by cases hx⟩, fun y hy => (by cases hy), .inl ⟨rfl, rfl⟩⟩
  · simp at hcs
    obtain ⟨rfl, rfl, rfl⟩ := hcs
    simp only [if_true] at hmm
    subst hmm
    rw [cellsI] at hx
    have each : ∀ i, i < len → ∃ y : Ins, W.cell? (a'.add (i * 4)) = some (.int .i64 y.op) ∧ W.cell? (a'.add (i * 4 + 1)) = some (.int .i64 y.a) ∧ W.cell? (a'.add (i * 4 + 2)) = some (.int .i64 y.b) ∧ W.cell? (a'.add (i * 4 + 3)) = some (.int .i64 y.n) ∧ InB y := fun i hi => by
      obtain ⟨cs', h1, h2⟩ := hx i (by omega)
      obtain ⟨_, hlen, hcell⟩ := World.cells?_some h1
      obtain ⟨y0, y1, y2, y3, k, hxy, _, g0, g1, g2, g3⟩ := Go.Joins.trod_struct4 Tryz.underlying41 h2
      obtain ⟨v0, v1, v2, v3, rfl⟩ : ∃ v0 v1 v2 v3, cs' = [v0, v1, v2, v3] := by
        match cs', hlen with
        | [v0, v1, v2, v3], _ => exact ⟨v0, v1, v2, v3, rfl⟩
      have g0' : DataW.trod enc Tryz.prog W 0 (fun _ => true) true k 3 [v0] = some y0 := by simpa [cells3] using g0
      have g1' : DataW.trod enc Tryz.prog W 0 (fun _ => true) true k 3 [v1] = some y1 := by simpa [cells3] using g1
      have g2' : DataW.trod enc Tryz.prog W 0 (fun _ => true) true k 3 [v2] = some y2 := by simpa [cells3] using g2
      have g3' : DataW.trod enc Tryz.prog W 0 (fun _ => true) true k 2 [v3] = some y3 := by simpa [cells2] using g3
      obtain ⟨n0, e0, _, w0⟩ := DataW.trod_int Tryz.underlying3 g0'
      obtain ⟨n1, e1, _, w1⟩ := DataW.trod_int Tryz.underlying3 g1'
      obtain ⟨n2, e2, _, w2⟩ := DataW.trod_int Tryz.underlying3 g2'
      obtain ⟨n3, e3, _, w3⟩ := DataW.trod_int Tryz.underlying2 g3'
      have d0 := hcell 0 (by omega)
      have d1 := hcell 1 (by omega)
      have d2 := hcell 2 (by omega)
      have d3 := hcell 3 (by omega)
      rw [Deep.add_add] at d0 d1 d2 d3
      injection e0 with e0
      injection e1 with e1
      injection e2 with e2
      injection e3 with e3
      subst e0 e1 e2 e3
      exact ⟨⟨n0, n1, n2, n3⟩, d0, d1, d2, d3, (wf_int w1).1, (wf_int w1).2, (wf_int w2).1, (wf_int w2).2, (wf_int w3).1, (wf_int w3).2⟩
    obtain ⟨f, hf⟩ := @Deep.choose_lt Ins ⟨⟨0, 0, 0, 0⟩⟩ _ _ each
    refine ⟨(List.range len).map f, by simp, ?_, fun y hy => ?_, .inr ⟨_, _, rfl, by simp⟩⟩
    · by_cases hl0 : len = 0
      · subst hl0
        exact ⟨some a', 0, 0, m, rfl, fun h => absurd h (Nat.lt_irrefl 0), fun i x hx => by cases hx⟩
      · obtain ⟨b, off, spot⟩ := a'
        have hspot : spot = none := by simpa [Addr.add] using World.cell?_spot (hf 0 (by omega)).1
        subst hspot
        have hbW : b < W.heap.size := World.block_lt_of_cell? W _ (by have := (hf 0 (by omega)).1; rwa [add_at] at this)
        refine ⟨some ⟨b, off, none⟩, b, off, m, by simp, fun _ => ⟨hbW, rfl⟩, fun i y hy => ?_⟩
        have hi : i < len := by have := (List.getElem?_eq_some_iff.1 hy).1; simpa using this
        have hfy : f i = y := by simpa [hi] using hy
        obtain ⟨q0, q1, q2, q3, _⟩ := hf i hi
        rw [add_at, hfy] at q0 q1 q2 q3
        exact ⟨q0, q1, q2, q3⟩
    · obtain ⟨i, hi, rfl⟩ := List.mem_map.1 hy
      exact (hf i (List.mem_range.1 hi)).2.2.2.2
theorem slice_shape {H : Type} {enc : TypeId × Value → H} {W : World} {fuel : Nat} {v : Value} {x : DataW H × List MemPlace} {t e : TypeId} (hu : Tryz.prog.underlying t = some (.slice e)) (h : DataW.trod enc Tryz.prog W 0 (fun _ => true) true fuel t [v] = some x) : ∃ a l c, v = .slice a l c := by
  rcases Deep.open_slice hu h with ⟨q, _⟩ | ⟨a', len', cap', m, n, D, Pl, q, _⟩
  · simp at q; exact ⟨_, _, _, q⟩
  · simp at q; exact ⟨_, _, _, q⟩
theorem cellsX : Tryz.prog.cellsOf 26 = 6 := by kernel_rfl
theorem cellsSI : Tryz.prog.cellsOf 22 = 1 := by kernel_rfl
theorem cellsSN : Tryz.prog.cellsOf 23 = 1 := by kernel_rfl
theorem cellsSC : Tryz.prog.cellsOf 24 = 1 := by kernel_rfl
theorem len_sized {H : Type} {ts : List TypeId} {ds : List (DataW H)} {j len : Nat} {t e : TypeId} {d : DataW H} (h : (DataW.weightsEach Tryz.prog ts ds).all (· ≤ reachBytes) = true) (ht : ts[j]? = some t) (hd : ds[j]? = some d) (hu : Tryz.prog.underlying t = some (.slice e)) (hw : (d = .nil ∧ len = 0) ∨ ∃ el sp, d = .slice el sp ∧ el.length = len) : len * Tryz.prog.bytesOf e ≤ 140737488351232 := by
  have hr : reachBytes = 140737488351232 := by decide
  rcases hw with ⟨_, rfl⟩ | ⟨el, sp, rfl, rfl⟩
  · simp
  · have h1 := sized_slice h ht hd hu
    rw [hr, Nat.add_mul] at h1
    omega
set_option maxRecDepth 100000 in
theorem open_img {H : Type} {enc : TypeId × Value → H} {W : World} {r : Reach} {b0 : Nat} {v : Value} {d : DataW H} {ps : List MemPlace} {ts : List TypeId} {ds : List (DataW H)} {j : Nat} (hv : Value.okWide Tryz.prog W r b0 26 v) (h : DataW.Trod enc Tryz.prog W 0 (fun _ => true) true 26 v d ps) (hsz : (DataW.weightsEach Tryz.prog ts ds).all (· ≤ reachBytes) = true) (ht : ts[j]? = some 26) (hd : ds[j]? = some d) :
    ∃ nm tv fv iv ov cv x, v = .agg #[nm, tv, fv, iv, ov, cv] ∧ Im W nm tv fv iv ov cv x ∧ (∀ a n c, tv = .slice a n c → n ≤ c) ∧ ImL x ∧ x.name.length ≤ 140737488351232 ∧ (∀ y ∈ x.cd, InB y) := by
  obtain ⟨cs, rfl, hcz⟩ := okWide_struct Tryz.underlying26 hv
  obtain ⟨fuel, hf⟩ := h
  obtain ⟨xs, n, _, hx, hl, hlen, hfl⟩ := DataW.trod_struct Tryz.underlying26 hf
  obtain ⟨c0, c1, c2, c3, c4, c5, rfl⟩ : ∃ c0 c1 c2 c3 c4 c5, cs = #[c0, c1, c2, c3, c4, c5] := by
    have h6 := hcz.trans cellsX
    obtain ⟨l⟩ := cs
    match l, h6 with
    | [c0, c1, c2, c3, c4, c5], _ => exact ⟨c0, c1, c2, c3, c4, c5, rfl⟩
  obtain ⟨y0, y1, y2, y3, y4, y5, rfl⟩ : ∃ y0 y1 y2 y3 y4 y5, xs = [y0, y1, y2, y3, y4, y5] := by
    match xs, hlen with
    | [y0, y1, y2, y3, y4, y5], _ => exact ⟨y0, y1, y2, y3, y4, y5, rfl⟩
  have g0 : DataW.trod enc Tryz.prog W 0 (fun _ => true) true n 9 [c0] = some y0 := by simpa [Value.cells, cells9] using hfl 0 _ rfl
  have g1 : DataW.trod enc Tryz.prog W 0 (fun _ => true) true n 22 [c1] = some y1 := by simpa [Value.cells, cellsSI] using hfl 1 _ rfl
  have g2 : DataW.trod enc Tryz.prog W 0 (fun _ => true) true n 23 [c2] = some y2 := by simpa [Value.cells, cellsSN] using hfl 2 _ rfl
  have g3 : DataW.trod enc Tryz.prog W 0 (fun _ => true) true n 22 [c3] = some y3 := by simpa [Value.cells, cellsSI] using hfl 3 _ rfl
  have g4 : DataW.trod enc Tryz.prog W 0 (fun _ => true) true n 22 [c4] = some y4 := by simpa [Value.cells, cellsSI] using hfl 4 _ rfl
  have g5 : DataW.trod enc Tryz.prog W 0 (fun _ => true) true n 24 [c5] = some y5 := by simpa [Value.cells, cellsSC] using hfl 5 _ rfl
  obtain ⟨s, e0, rfl, _⟩ := DataW.trod_string Tryz.underlying9 g0
  obtain rfl : c0 = .string s := by simpa using e0
  obtain ⟨a1, n1, k1, rfl⟩ := slice_shape Tryz.underlying22 g1
  obtain ⟨a2, n2, k2, rfl⟩ := slice_shape Tryz.underlying23 g2
  obtain ⟨a3, n3, k3, rfl⟩ := slice_shape Tryz.underlying22 g3
  obtain ⟨a4, n4, k4, rfl⟩ := slice_shape Tryz.underlying22 g4
  obtain ⟨a5, n5, k5, rfl⟩ := slice_shape Tryz.underlying24 g5
  obtain ⟨l1, p1, q1, L1, _, w1⟩ := open_il g1 rfl
  obtain ⟨l2, p2, _, L2, _, w2⟩ := open_nl g2 rfl
  obtain ⟨l3, p3, _, L3, _, w3⟩ := open_il g3 rfl
  obtain ⟨l4, p4, _, L4, _, w4⟩ := open_il g4 rfl
  obtain ⟨l5, p5, L5, I5, w5⟩ := open_cd g5 rfl
  have hd' : d = .agg [.lit (.string s.data.toList), y1.1, y2.1, y3.1, y4.1, y5.1] := congrArg Prod.fst hx
  subst hd'
  have hin : (DataW.weightsEach Tryz.prog [9, 22, 23, 22, 22, 24] [.lit (.string s.data.toList), y1.1, y2.1, y3.1, y4.1, y5.1]).all (· ≤ reachBytes) = true := List.all_eq_true.2 fun k hk => List.all_eq_true.1 hsz k (DataW.weights_mem_each ht hd k (by
    simp only [DataW.weights, Tryz.underlying26]; exact hk))
  have lw : ∀ {l : List Int} {len : Nat} {y : DataW H × List MemPlace}, ((y.1 = .nil ∧ len = 0) ∨ ∃ el sp, y.1 = .slice el sp ∧ el = l.map fun z => .lit (.int .i64 z)) → l.length = len → (y.1 = .nil ∧ len = 0) ∨ ∃ el sp, y.1 = .slice el sp ∧ el.length = len := fun hw hp => by
    rcases hw with hw | ⟨el, sp, e1, e2⟩
    · exact .inl hw
    · exact .inr ⟨el, sp, e1, by rw [e2, List.length_map, hp]⟩
  have z1 := len_sized hin (j := 1) rfl rfl Tryz.underlying22 (lw w1 p1)
  have z2 := len_sized hin (j := 2) rfl rfl Tryz.underlying23 (lw w2 p2)
  have z3 := len_sized hin (j := 3) rfl rfl Tryz.underlying22 (lw w3 p3)
  have z4 := len_sized hin (j := 4) rfl rfl Tryz.underlying22 (lw w4 p4)
  have z5 := len_sized hin (j := 5) rfl rfl Tryz.underlying24 w5
  have z0 := sized_string hin (j := 0) rfl rfl
  have hr : reachBytes = 140737488351232 := by decide
  rw [bytes3] at z1 z3 z4
  rw [bytes2] at z2
  rw [bytesI] at z5
  refine ⟨_, _, _, _, _, _, ⟨s.data.toList, l1, l2, l3, l4, l5⟩, rfl, ⟨by cases s; rfl, L1, L2, L3, L4, L5⟩, fun a n c e => by injection e with _ e1 e2; omega, ⟨?_, ?_, ?_, ?_, ?_⟩, by rw [hr] at z0; exact z0, I5⟩
  · show l1.length ≤ _; omega
  · show l2.length ≤ _; omega
  · show l3.length ≤ _; omega
  · show l4.length ≤ _; omega
  · show l5.length ≤ _; omega
end Go.Proofs.YtmbgcpmapaedcaaGreatDoor
namespace Go.Proofs.YtmbgcpmapaedcaaGreatDoor
open Go.ChangeShapes Go.WideShapes Go.ChangeAt Go.RowKit
theorem bulk_one {H : Type} (d : DataW H) : 1 ≤ Rows.uptoBulk d := by
  cases d with
  | lit x => cases x <;> simp [Rows.uptoBulk]
  | _ => simp [Rows.uptoBulk]
theorem bulk_ge {H : Type} : ∀ (l : List (DataW H)), l.length ≤ Rows.uptoBulkAll l
  | [] => Nat.zero_le _
  | d :: r => by
    have h1 := bulk_one d
    have h2 := bulk_ge r
    simp only [Rows.uptoBulkAll, List.length_cons]
    omega
theorem bulk_items {H : Type} {d : DataW H} {len : Nat} (h : (d = .nil ∧ len = 0) ∨ ∃ el sp, d = .slice el sp ∧ el.length = len) : len ≤ Rows.uptoBulk d := by
  rcases h with ⟨rfl, rfl⟩ | ⟨el, sp, rfl, rfl⟩
  · omega
  · have := bulk_ge el
    simp only [Rows.uptoBulk]; omega
structure ImB (x : Img) (m : Nat) : Prop where
  ty : x.ty.length ≤ m
  fi : x.fi.length ≤ m
  ins : x.ins.length ≤ m
  outs : x.outs.length ≤ m
  cd : x.cd.length ≤ m
set_option maxRecDepth 100000 in
theorem open_imgB {H : Type} {enc : TypeId × Value → H} {W : World} {r : Reach} {b0 : Nat} {v : Value} {d : DataW H} {ps : List MemPlace} {ts : List TypeId} {ds : List (DataW H)} {j : Nat} (hv : Value.okWide Tryz.prog W r b0 26 v) (h : DataW.Trod enc Tryz.prog W 0 (fun _ => true) true 26 v d ps) (hsz : (DataW.weightsEach Tryz.prog ts ds).all (· ≤ reachBytes) = true) (ht : ts[j]? = some 26) (hd : ds[j]? = some d) :
    ∃ nm tv fv iv ov cv x, v = .agg #[nm, tv, fv, iv, ov, cv] ∧ Im W nm tv fv iv ov cv x ∧ (∀ a n c, tv = .slice a n c → n ≤ c) ∧ ImL x ∧ x.name.length ≤ 140737488351232 ∧ (∀ y ∈ x.cd, InB y) ∧ ImB x (Rows.uptoBulk d) := by
  obtain ⟨cs, rfl, hcz⟩ := okWide_struct Tryz.underlying26 hv
  obtain ⟨fuel, hf⟩ := h
  obtain ⟨xs, n, _, hx, hl, hlen, hfl⟩ := DataW.trod_struct Tryz.underlying26 hf
  obtain ⟨c0, c1, c2, c3, c4, c5, rfl⟩ : ∃ c0 c1 c2 c3 c4 c5, cs = #[c0, c1, c2, c3, c4, c5] := by
    have h6 := hcz.trans cellsX
    obtain ⟨l⟩ := cs
    match l, h6 with
    | [c0, c1, c2, c3, c4, c5], _ => exact ⟨c0, c1, c2, c3, c4, c5, rfl⟩
  obtain ⟨y0, y1, y2, y3, y4, y5, rfl⟩ : ∃ y0 y1 y2 y3 y4 y5, xs = [y0, y1, y2, y3, y4, y5] := by
    match xs, hlen with
    | [y0, y1, y2, y3, y4, y5], _ => exact ⟨y0, y1, y2, y3, y4, y5, rfl⟩
  have g0 : DataW.trod enc Tryz.prog W 0 (fun _ => true) true n 9 [c0] = some y0 := by simpa [Value.cells, cells9] using hfl 0 _ rfl
  have g1 : DataW.trod enc Tryz.prog W 0 (fun _ => true) true n 22 [c1] = some y1 := by simpa [Value.cells, cellsSI] using hfl 1 _ rfl
  have g2 : DataW.trod enc Tryz.prog W 0 (fun _ => true) true n 23 [c2] = some y2 := by simpa [Value.cells, cellsSN] using hfl 2 _ rfl
  have g3 : DataW.trod enc Tryz.prog W 0 (fun _ => true) true n 22 [c3] = some y3 := by simpa [Value.cells, cellsSI] using hfl 3 _ rfl
  have g4 : DataW.trod enc Tryz.prog W 0 (fun _ => true) true n 22 [c4] = some y4 := by simpa [Value.cells, cellsSI] using hfl 4 _ rfl
  have g5 : DataW.trod enc Tryz.prog W 0 (fun _ => true) true n 24 [c5] = some y5 := by simpa [Value.cells, cellsSC] using hfl 5 _ rfl
  obtain ⟨s, e0, rfl, _⟩ := DataW.trod_string Tryz.underlying9 g0
  obtain rfl : c0 = .string s := by simpa using e0
  obtain ⟨a1, n1, k1, rfl⟩ := slice_shape Tryz.underlying22 g1
  obtain ⟨a2, n2, k2, rfl⟩ := slice_shape Tryz.underlying23 g2
  obtain ⟨a3, n3, k3, rfl⟩ := slice_shape Tryz.underlying22 g3
  obtain ⟨a4, n4, k4, rfl⟩ := slice_shape Tryz.underlying22 g4
  obtain ⟨a5, n5, k5, rfl⟩ := slice_shape Tryz.underlying24 g5
  obtain ⟨l1, p1, q1, L1, _, w1⟩ := open_il g1 rfl
  obtain ⟨l2, p2, _, L2, _, w2⟩ := open_nl g2 rfl
  obtain ⟨l3, p3, _, L3, _, w3⟩ := open_il g3 rfl
  obtain ⟨l4, p4, _, L4, _, w4⟩ := open_il g4 rfl
  obtain ⟨l5, p5, L5, I5, w5⟩ := open_cd g5 rfl
  have hd' : d = .agg [.lit (.string s.data.toList), y1.1, y2.1, y3.1, y4.1, y5.1] := congrArg Prod.fst hx
  subst hd'
  have hin : (DataW.weightsEach Tryz.prog [9, 22, 23, 22, 22, 24] [.lit (.string s.data.toList), y1.1, y2.1, y3.1, y4.1, y5.1]).all (· ≤ reachBytes) = true := List.all_eq_true.2 fun k hk => List.all_eq_true.1 hsz k (DataW.weights_mem_each ht hd k (by
    simp only [DataW.weights, Tryz.underlying26]; exact hk))
  have lw : ∀ {l : List Int} {len : Nat} {y : DataW H × List MemPlace}, ((y.1 = .nil ∧ len = 0) ∨ ∃ el sp, y.1 = .slice el sp ∧ el = l.map fun z => .lit (.int .i64 z)) → l.length = len → (y.1 = .nil ∧ len = 0) ∨ ∃ el sp, y.1 = .slice el sp ∧ el.length = len := fun hw hp => by
    rcases hw with hw | ⟨el, sp, e1, e2⟩
    · exact .inl hw
    · exact .inr ⟨el, sp, e1, by rw [e2, List.length_map, hp]⟩
  have z1 := len_sized hin (j := 1) rfl rfl Tryz.underlying22 (lw w1 p1)
  have z2 := len_sized hin (j := 2) rfl rfl Tryz.underlying23 (lw w2 p2)
  have z3 := len_sized hin (j := 3) rfl rfl Tryz.underlying22 (lw w3 p3)
  have z4 := len_sized hin (j := 4) rfl rfl Tryz.underlying22 (lw w4 p4)
  have z5 := len_sized hin (j := 5) rfl rfl Tryz.underlying24 w5
  have z0 := sized_string hin (j := 0) rfl rfl
  have hr : reachBytes = 140737488351232 := by decide
  rw [bytes3] at z1 z3 z4
  rw [bytes2] at z2
  rw [bytesI] at z5
  refine ⟨_, _, _, _, _, _, ⟨s.data.toList, l1, l2, l3, l4, l5⟩, rfl, ⟨by cases s; rfl, L1, L2, L3, L4, L5⟩, fun a n c e => by injection e with _ e1 e2; omega, ⟨?_, ?_, ?_, ?_, ?_⟩, by rw [hr] at z0; exact z0, I5, ?_⟩
  · show l1.length ≤ _; omega
  · show l2.length ≤ _; omega
  · show l3.length ≤ _; omega
  · show l4.length ≤ _; omega
  · show l5.length ≤ _; omega
  · have b1 := bulk_items (lw w1 p1)
    have b2 := bulk_items (lw w2 p2)
    have b3 := bulk_items (lw w3 p3)
    have b4 := bulk_items (lw w4 p4)
    have b5 := bulk_items w5
    simp only [Rows.uptoBulk, Rows.uptoBulkAll]
    exact ⟨by show l1.length ≤ _; omega, by show l2.length ≤ _; omega, by show l3.length ≤ _; omega, by show l4.length ≤ _; omega, by show l5.length ≤ _; omega⟩
end Go.Proofs.YtmbgcpmapaedcaaGreatDoor
