/- CodeReads' walk. | An image among the arguments, opened. -/
import Derived.Test.YtmbgcpmapaedcaaGreatDoorRnW
import Derived.Test.YtmbgcpmapaedcaaGreatDoorMg29
import Derived.Test.YtmbgcpmapaedcaaGreatDoorMg13
import Derived.Test.YtmbgcpmapaedcaaGreatDoorMg11
import Derived.Deep.Slices
import Derived.LaidLaws
import Derived.SizedLaws
import Derived.ChangeSame
namespace Go.Proofs.YtmbgcpmapaedcaaGreatDoor
open Go.RowKit
set_option maxRecDepth 100000 in
set_option maxHeartbeats 3200000 in
theorem reads_any (s : ByteArray) (w : World) (hg : GlZ w) (hs : s.size ≤ 140737488355328) :
    Calls Tryz.prog 4 #[.string s] w fun e w' => e = .returned (.bool true) ∧ Below w.heap.size w w' := by
  have m0 : Hid (∀ W, Below w.heap.size w W → Calls Tryz.prog 13 #[] W fun e w' => e = .returned (.bool true) ∧ Below W.heap.size W w') := fun W hb => works_any W (hg.on hb).c (hg.on hb).p
  have m1 := hide (decode13_any s hs w hg.c hg.e)
  have m2 : Hid (∀ W, Calls Tryz.prog 15 #[.string s] W fun e w' => ∃ nm tv fv iv ov cv, e = .returned (.tuple #[.agg #[nm, tv, fv, iv, ov, cv], .int .i64 (decP s.data.toList).2]) ∧ Im w' nm tv fv iv ov cv (decP s.data.toList).1 ∧ Below W.heap.size W w') := fun W => rdecode13_any s hs W
  have hL := dec_L s.data.toList
  have m3 : Hid (∀ W a b c d e f a' b' c' d' e' f', Im W a b c d e f (decP s.data.toList).1 → Im W a' b' c' d' e' f' (decP s.data.toList).1 → Calls Tryz.prog 12 #[.agg #[a, b, c, d, e, f], .agg #[a', b', c', d', e', f']] W fun e w' => e = .returned (.bool true) ∧ Below W.heap.size W w') := fun W a b c d e f a' b' c' d' e' f' h h' => image_one _ _ _ _ _ _ _ _ _ _ _ _ _ W h h' hL
  clear hg hs hL
  generalize (decP s.data.toList).1 = x at *
  generalize (decP s.data.toList).2 = c at *
  go_enter Tryz.func4, Tryz.ntmps4
  go_wp2_with fail
  refine m1.out.mono ?_
  rintro e w1 ⟨nm, tv, fv, iv, ov, cv, rfl, hI1, -, b1⟩
  obtain ⟨S, ta, fa, ia, oa, ca, tn, fn, in_, on_, cn, tc, fc, ic, oc, cc, rfl, rfl, rfl, rfl, rfl, rfl⟩ := im_shape hI1.im
  have I1 := hide (fun A => hI1.im.on ((Below.refl _ _).alloc (Nat.le_refl w1.heap.size) A))
  have B1 := hide (fun A => b1.alloc b1.size A)
  have X1 := hide (fun A => heap_alloc_new w1 A)
  have z1 := b1.size
  clear hI1 b1 m1
  go_wp2_with fail
  refine (m2.out _).mono ?_
  rintro e w2 ⟨nm', tv', fv', iv', ov', cv', rfl, hI2, b2⟩
  obtain ⟨S', ta', fa', ia', oa', ca', tn', fn', in', on', cn', tc', fc', ic', oc', cc', rfl, rfl, rfl, rfl, rfl, rfl⟩ := im_shape hI2
  have z2 := b2.size
  simp only [World.size_alloc] at z2
  have Q := six ((b2.block w1.heap.size (by simp)).trans (X1.out (.cells #[.string S, .slice ta tn tc, .slice fa fn fc, .slice ia in_ ic, .slice oa on_ oc, .slice ca cn cc] 26)))
  have hq := fun A => six ((heap_alloc_old w2 A (by omega)).trans ((b2.block w1.heap.size (by simp)).trans (X1.out (.cells #[.string S, .slice ta tn tc, .slice fa fn fc, .slice ia in_ ic, .slice oa on_ oc, .slice ca cn cc] 26))))
  have q0 := fun A => (hq A).1
  have q1 := fun A => (hq A).2.1
  have q2 := fun A => (hq A).2.2.1
  have q3 := fun A => (hq A).2.2.2.1
  have q4 := fun A => (hq A).2.2.2.2.1
  have q5 := fun A => (hq A).2.2.2.2.2.1
  have M3 := hide (fun A => m3.out (w2.alloc A) _ _ _ _ _ _ _ _ _ _ _ _ (((I1.out _).on b2).on ((Below.refl _ _).alloc (Nat.le_refl _) A)) (hI2.on ((Below.refl _ _).alloc (Nat.le_refl _) A)))
  have B2 := hide (fun A => ((B1.out _).trans (b2.mono (B1.out _).size)).alloc (((B1.out (.cells #[.string S, .slice ta tn tc, .slice fa fn fc, .slice ia in_ ic, .slice oa on_ oc, .slice ca cn cc] 26)).trans (b2.mono (B1.out _).size)).size) A)
  clear hI2 b2 m2 m3 hq Q X1 I1 B1
  go_wp2_with fail
  refine (M3.out _).mono ?_
  rintro e w3 ⟨rfl, b3⟩
  have B3 := hide ((B2.out _).trans (b3.mono (B2.out _).size))
  clear b3 B2 M3 q0 q1 q2 q3 q4 q5
  go_wp2_with fail
  refine (m0.out _ B3.out).mono ?_
  rintro e w4 ⟨rfl, b4⟩
  have B4 := hide (B3.out.trans (b4.mono B3.out.size))
  clear b4 B3 m0
  go_wp2
  go_ret
  exact ⟨rfl, B4.out⟩
theorem reads_row (s : ByteArray) (w : World) (hs : s.size ≤ 140737488351232) (hg : GlZ w) : Calls Tryz.prog 4 #[.string s] w fun e w' => e = .returned (.bool true) ∧ Below w.heap.size w w' := reads_any s w hg (by omega)
end Go.Proofs.YtmbgcpmapaedcaaGreatDoor
namespace Go.Proofs.YtmbgcpmapaedcaaGreatDoor
open Go.ChangeShapes Go.WideShapes Go.ChangeAt Go.RowKit
theorem laidOut : laidOutB Tryz.prog = true := by kernel_rfl
theorem bytes3 : Tryz.prog.bytesOf 3 = 8 := by kernel_rfl
theorem bytes2 : Tryz.prog.bytesOf 2 = 8 := by kernel_rfl
theorem bytesI : Tryz.prog.bytesOf 41 = 32 := by kernel_rfl
theorem add_at (b off j : Nat) : (⟨b, off, none⟩ : Addr).add j = ⟨b, off + j, none⟩ := by unfold Addr.add; split <;> simp_all
theorem wf_int {n : Int} (hw : (Lit.int .i64 n).wf = true) : -9223372036854775808 ≤ n ∧ n ≤ 9223372036854775807 := by
  have h : (decide (IntKind.i64.min ≤ n) && decide (n ≤ IntKind.i64.max)) = true := hw
  rw [Bool.and_eq_true] at h
  exact ⟨of_decide_eq_true h.1, of_decide_eq_true h.2⟩
theorem open_il {H : Type} {enc : TypeId × Value → H} {W : World} {fuel len cap : Nat} {a : Option Addr} {x : DataW H × List MemPlace} {cs : List Value} (h : DataW.trod enc Tryz.prog W 0 (fun _ => true) true fuel 22 cs = some x) (hcs0 : cs = [.slice a len cap]) :
    ∃ l : List Int, l.length = len ∧ len ≤ cap ∧ ILst W (.slice a len cap) l ∧ (∀ y ∈ l, -9223372036854775808 ≤ y ∧ y ≤ 9223372036854775807) ∧ ((x.1 = .nil ∧ len = 0) ∨ ∃ el sp, x.1 = .slice el sp ∧ el = l.map fun y => .lit (.int .i64 y)) := by
  subst hcs0
  rcases Deep.open_slice Tryz.underlying22 h with ⟨hcs, rfl⟩ | ⟨a', len', cap', m, n, D, Pl, hcs, hb, hl, hm, hmm, rfl, hx⟩
  · simp at hcs
    obtain ⟨rfl, rfl, rfl⟩ := hcs
    exact ⟨[], rfl, Nat.le_refl _, ILst.nil _ _, fun y hy => (by cases hy), .inl ⟨rfl, rfl⟩⟩
  · simp at hcs
    obtain ⟨rfl, rfl, rfl⟩ := hcs
    simp only [if_true] at hmm
    subst hmm
    rw [cells3] at hx
    have each : ∀ i, i < len → ∃ y : Int, W.cell? (a'.add (i * 1)) = some (.int .i64 y) ∧ (-9223372036854775808 ≤ y ∧ y ≤ 9223372036854775807) ∧ D i = .lit (.int .i64 y) := fun i hi => by
      obtain ⟨cs', h1, h2⟩ := hx i (by omega)
      obtain ⟨_, hlen, hcell⟩ := World.cells?_some h1
      obtain ⟨v0, rfl⟩ : ∃ v0, cs' = [v0] := by
        match cs', hlen with
        | [v0], _ => exact ⟨v0, rfl⟩
      obtain ⟨z0, e0, E0, hw⟩ := DataW.trod_int Tryz.underlying3 h2
      have d0 := hcell 0 (by omega)
      rw [Deep.add_add] at d0
      injection e0 with e0
      subst e0
      exact ⟨z0, d0, wf_int hw, congrArg Prod.fst E0⟩
    obtain ⟨f, hf⟩ := @Deep.choose_lt Int ⟨0⟩ _ _ each
    refine ⟨(List.range len).map f, by simp, hl, ?_, ?_, .inr ⟨_, _, rfl, ?_⟩⟩
    · by_cases hl0 : len = 0
      · subst hl0
        exact ⟨some a', 0, 0, m, rfl, fun h => absurd h (Nat.lt_irrefl 0), fun i x hx => by cases hx⟩
      · obtain ⟨b, off, spot⟩ := a'
        have hspot : spot = none := by simpa [Addr.add] using World.cell?_spot (hf 0 (by omega)).1
        subst hspot
        have hbW : b < W.heap.size := World.block_lt_of_cell? W _ (by have := (hf 0 (by omega)).1; rwa [add_at] at this)
        refine ⟨some ⟨b, off, none⟩, b, off, m, by simp, fun _ => ⟨hbW, rfl⟩, fun i y hy => ?_⟩
        have hi : i < len := by have := (List.getElem?_eq_some_iff.1 hy).1; simpa using this
        have hfy : f i = y := by simpa [hi] using hy
        have q0 := (hf i hi).1
        rw [add_at, Nat.mul_one, hfy] at q0
        exact q0
    · intro y hy
      obtain ⟨i, hi, rfl⟩ := List.mem_map.1 hy
      exact (hf i (List.mem_range.1 hi)).2.1
    · rw [List.map_map]
      exact List.map_congr_left fun i hi => (hf i (List.mem_range.1 hi)).2.2
theorem open_nl {H : Type} {enc : TypeId × Value → H} {W : World} {fuel len cap : Nat} {a : Option Addr} {x : DataW H × List MemPlace} {cs : List Value} (h : DataW.trod enc Tryz.prog W 0 (fun _ => true) true fuel 23 cs = some x) (hcs0 : cs = [.slice a len cap]) :
    ∃ l : List Int, l.length = len ∧ len ≤ cap ∧ ILst W (.slice a len cap) l ∧ (∀ y ∈ l, -9223372036854775808 ≤ y ∧ y ≤ 9223372036854775807) ∧ ((x.1 = .nil ∧ len = 0) ∨ ∃ el sp, x.1 = .slice el sp ∧ el = l.map fun y => .lit (.int .i64 y)) := by
  subst hcs0
  rcases Deep.open_slice Tryz.underlying23 h with ⟨hcs, rfl⟩ | ⟨a', len', cap', m, n, D, Pl, hcs, hb, hl, hm, hmm, rfl, hx⟩
  · simp at hcs
    obtain ⟨rfl, rfl, rfl⟩ := hcs
    exact ⟨[], rfl, Nat.le_refl _, ILst.nil _ _, fun y hy => (by cases hy), .inl ⟨rfl, rfl⟩⟩
  · simp at hcs
    obtain ⟨rfl, rfl, rfl⟩ := hcs
    simp only [if_true] at hmm
    subst hmm
    rw [cells2] at hx
    have each : ∀ i, i < len → ∃ y : Int, W.cell? (a'.add (i * 1)) = some (.int .i64 y) ∧ (-9223372036854775808 ≤ y ∧ y ≤ 9223372036854775807) ∧ D i = .lit (.int .i64 y) := fun i hi => by
      obtain ⟨cs', h1, h2⟩ := hx i (by omega)
      obtain ⟨_, hlen, hcell⟩ := World.cells?_some h1
      obtain ⟨v0, rfl⟩ : ∃ v0, cs' = [v0] := by
        match cs', hlen with
        | [v0], _ => exact ⟨v0, rfl⟩
      obtain ⟨z0, e0, E0, hw⟩ := DataW.trod_int Tryz.underlying2 h2
      have d0 := hcell 0 (by omega)
      rw [Deep.add_add] at d0
      injection e0 with e0
      subst e0
      exact ⟨z0, d0, wf_int hw, congrArg Prod.fst E0⟩
    obtain ⟨f, hf⟩ := @Deep.choose_lt Int ⟨0⟩ _ _ each
    refine ⟨(List.range len).map f, by simp, hl, ?_, ?_, .inr ⟨_, _, rfl, ?_⟩⟩
    · by_cases hl0 : len = 0
      · subst hl0
        exact ⟨some a', 0, 0, m, rfl, fun h => absurd h (Nat.lt_irrefl 0), fun i x hx => by cases hx⟩
      · obtain ⟨b, off, spot⟩ := a'
        have hspot : spot = none := by simpa [Addr.add] using World.cell?_spot (hf 0 (by omega)).1
        subst hspot
        have hbW : b < W.heap.size := World.block_lt_of_cell? W _ (by have := (hf 0 (by omega)).1; rwa [add_at] at this)
        refine ⟨some ⟨b, off, none⟩, b, off, m, by simp, fun _ => ⟨hbW, rfl⟩, fun i y hy => ?_⟩
        have hi : i < len := by have := (List.getElem?_eq_some_iff.1 hy).1; simpa using this
        have hfy : f i = y := by simpa [hi] using hy
        have q0 := (hf i hi).1
        rw [add_at, Nat.mul_one, hfy] at q0
        exact q0
    · intro y hy
      obtain ⟨i, hi, rfl⟩ := List.mem_map.1 hy
      exact (hf i (List.mem_range.1 hi)).2.1
    · rw [List.map_map]
      exact List.map_congr_left fun i hi => (hf i (List.mem_range.1 hi)).2.2

set_option maxRecDepth 100000 in
theorem open_cd {H : Type} {enc : TypeId × Value → H} {W : World} {fuel len cap : Nat} {a : Option Addr} {x : DataW H × List MemPlace} {cs : List Value} (h : DataW.trod enc Tryz.prog W 0 (fun _ => true) true fuel 24 cs = some x) (hcs0 : cs = [.slice a len cap]) :
    ∃ l : List Ins, l.length = len ∧ ISt W (.slice a len cap) l ∧ (∀ y ∈ l, InB y) ∧ ((x.1 = .nil ∧ len = 0) ∨ ∃ el sp, x.1 = .slice el sp ∧ el.length = len) := by
  subst hcs0
  rcases Deep.open_slice Tryz.underlying24 h with ⟨hcs, rfl⟩ | ⟨a', len', cap', m, n, D, Pl, hcs, hb, hl, hm, hmm, rfl, hx⟩
  · simp at hcs
    obtain ⟨rfl, rfl, rfl⟩ := hcs
    exact ⟨[], rfl, ⟨none, 0, 0, 0, rfl, fun h => absurd h (Nat.lt_irrefl 0), fun i x hx => by cases hx⟩, fun y hy => (by cases hy), .inl ⟨rfl, rfl⟩⟩
  · simp at hcs
    obtain ⟨rfl, rfl, rfl⟩ := hcs
    simp only [if_true] at hmm
    subst hmm
    rw [cellsI] at hx
    have each : ∀ i, i < len → ∃ y : Ins, W.cell? (a'.add (i * 4)) = some (.int .i64 y.op) ∧ W.cell? (a'.add (i * 4 + 1)) = some (.int .i64 y.a) ∧ W.cell? (a'.add (i * 4 + 2)) = some (.int .i64 y.b) ∧ W.cell? (a'.add (i * 4 + 3)) = some (.int .i64 y.n) ∧ InB y := fun i hi => by
      obtain ⟨cs', h1, h2⟩ := hx i (by omega)
      obtain ⟨_, hlen, hcell⟩ := World.cells?_some h1
      obtain ⟨y0, y1, y2, y3, k, hxy, _, g0, g1, g2, g3⟩ := Go.Joins.trod_struct4 Tryz.underlying41 h2
      obtain ⟨v0, v1, v2, v3, rfl⟩ : ∃ v0 v1 v2 v3, cs' = [v0, v1, v2, v3] := by
        match cs', hlen with
        | [v0, v1, v2, v3], _ => exact ⟨v0, v1, v2, v3, rfl⟩
      have g0' : DataW.trod enc Tryz.prog W 0 (fun _ => true) true k 3 [v0] = some y0 := by simpa [cells3] using g0
      have g1' : DataW.trod enc Tryz.prog W 0 (fun _ => true) true k 3 [v1] = some y1 := by simpa [cells3] using g1
      have g2' : DataW.trod enc Tryz.prog W 0 (fun _ => true) true k 3 [v2] = some y2 := by simpa [cells3] using g2
      have g3' : DataW.trod enc Tryz.prog W 0 (fun _ => true) true k 2 [v3] = some y3 := by simpa [cells2] using g3
      obtain ⟨n0, e0, _, w0⟩ := DataW.trod_int Tryz.underlying3 g0'
      obtain ⟨n1, e1, _, w1⟩ := DataW.trod_int Tryz.underlying3 g1'
      obtain ⟨n2, e2, _, w2⟩ := DataW.trod_int Tryz.underlying3 g2'
      obtain ⟨n3, e3, _, w3⟩ := DataW.trod_int Tryz.underlying2 g3'
      have d0 := hcell 0 (by omega)
      have d1 := hcell 1 (by omega)
      have d2 := hcell 2 (by omega)
      have d3 := hcell 3 (by omega)
      rw [Deep.add_add] at d0 d1 d2 d3
      injection e0 with e0
      injection e1 with e1
      injection e2 with e2
      injection e3 with e3
      subst e0 e1 e2 e3
      exact ⟨⟨n0, n1, n2, n3⟩, d0, d1, d2, d3, (wf_int w1).1, (wf_int w1).2, (wf_int w2).1, (wf_int w2).2, (wf_int w3).1, (wf_int w3).2⟩
    obtain ⟨f, hf⟩ := @Deep.choose_lt Ins ⟨⟨0, 0, 0, 0⟩⟩ _ _ each
    refine ⟨(List.range len).map f, by simp, ?_, fun y hy => ?_, .inr ⟨_, _, rfl, by simp⟩⟩
    · by_cases hl0 : len = 0
      · subst hl0
        exact ⟨some a', 0, 0, m, rfl, fun h => absurd h (Nat.lt_irrefl 0), fun i x hx => by cases hx⟩
      · obtain ⟨b, off, spot⟩ := a'
        have hspot : spot = none := by simpa [Addr.add] using World.cell?_spot (hf 0 (by omega)).1
        subst hspot
        have hbW : b < W.heap.size := World.block_lt_of_cell? W _ (by have := (hf 0 (by omega)).1; rwa [add_at] at this)
        refine ⟨some ⟨b, off, none⟩, b, off, m, by simp, fun _ => ⟨hbW, rfl⟩, fun i y hy => ?_⟩
        have hi : i < len := by have := (List.getElem?_eq_some_iff.1 hy).1; simpa using this
        have hfy : f i = y := by simpa [hi] using hy
        obtain ⟨q0, q1, q2, q3, _⟩ := hf i hi
        rw [add_at, hfy] at q0 q1 q2 q3
        exact ⟨q0, q1, q2, q3⟩
    · obtain ⟨i, hi, rfl⟩ := List.mem_map.1 hy
      exact (hf i (List.mem_range.1 hi)).2.2.2.2
theorem slice_shape {H : Type} {enc : TypeId × Value → H} {W : World} {fuel : Nat} {v : Value} {x : DataW H × List MemPlace} {t e : TypeId} (hu : Tryz.prog.underlying t = some (.slice e)) (h : DataW.trod enc Tryz.prog W 0 (fun _ => true) true fuel t [v] = some x) : ∃ a l c, v = .slice a l c := by
  rcases Deep.open_slice hu h with ⟨q, _⟩ | ⟨a', len', cap', m, n, D, Pl, q, _⟩
  · simp at q; exact ⟨_, _, _, q⟩
  · simp at q; exact ⟨_, _, _, q⟩
theorem cellsX : Tryz.prog.cellsOf 26 = 6 := by kernel_rfl
theorem cellsSI : Tryz.prog.cellsOf 22 = 1 := by kernel_rfl
theorem cellsSN : Tryz.prog.cellsOf 23 = 1 := by kernel_rfl
theorem cellsSC : Tryz.prog.cellsOf 24 = 1 := by kernel_rfl
theorem len_sized {H : Type} {ts : List TypeId} {ds : List (DataW H)} {j len : Nat} {t e : TypeId} {d : DataW H} (h : (DataW.weightsEach Tryz.prog ts ds).all (· ≤ reachBytes) = true) (ht : ts[j]? = some t) (hd : ds[j]? = some d) (hu : Tryz.prog.underlying t = some (.slice e)) (hw : (d = .nil ∧ len = 0) ∨ ∃ el sp, d = .slice el sp ∧ el.length = len) : len * Tryz.prog.bytesOf e ≤ 140737488351232 := by
  have hr : reachBytes = 140737488351232 := by decide
  rcases hw with ⟨_, rfl⟩ | ⟨el, sp, rfl, rfl⟩
  · simp
  · have h1 := sized_slice h ht hd hu
    rw [hr, Nat.add_mul] at h1
    omega
set_option maxRecDepth 100000 in
theorem open_img {H : Type} {enc : TypeId × Value → H} {W : World} {r : Reach} {b0 : Nat} {v : Value} {d : DataW H} {ps : List MemPlace} {ts : List TypeId} {ds : List (DataW H)} {j : Nat} (hv : Value.okWide Tryz.prog W r b0 26 v) (h : DataW.Trod enc Tryz.prog W 0 (fun _ => true) true 26 v d ps) (hsz : (DataW.weightsEach Tryz.prog ts ds).all (· ≤ reachBytes) = true) (ht : ts[j]? = some 26) (hd : ds[j]? = some d) :
    ∃ nm tv fv iv ov cv x, v = .agg #[nm, tv, fv, iv, ov, cv] ∧ Im W nm tv fv iv ov cv x ∧ (∀ a n c, tv = .slice a n c → n ≤ c) ∧ ImL x ∧ x.name.length ≤ 140737488351232 ∧ (∀ y ∈ x.cd, InB y) := by
  obtain ⟨cs, rfl, hcz⟩ := okWide_struct Tryz.underlying26 hv
  obtain ⟨fuel, hf⟩ := h
  obtain ⟨xs, n, _, hx, hl, hlen, hfl⟩ := DataW.trod_struct Tryz.underlying26 hf
  obtain ⟨c0, c1, c2, c3, c4, c5, rfl⟩ : ∃ c0 c1 c2 c3 c4 c5, cs = #[c0, c1, c2, c3, c4, c5] := by
    have h6 := hcz.trans cellsX
    obtain ⟨l⟩ := cs
    match l, h6 with
    | [c0, c1, c2, c3, c4, c5], _ => exact ⟨c0, c1, c2, c3, c4, c5, rfl⟩
  obtain ⟨y0, y1, y2, y3, y4, y5, rfl⟩ : ∃ y0 y1 y2 y3 y4 y5, xs = [y0, y1, y2, y3, y4, y5] := by
    match xs, hlen with
    | [y0, y1, y2, y3, y4, y5], _ => exact ⟨y0, y1, y2, y3, y4, y5, rfl⟩
  have g0 : DataW.trod enc Tryz.prog W 0 (fun _ => true) true n 9 [c0] = some y0 := by simpa [Value.cells, cells9] using hfl 0 _ rfl
  have g1 : DataW.trod enc Tryz.prog W 0 (fun _ => true) true n 22 [c1] = some y1 := by simpa [Value.cells, cellsSI] using hfl 1 _ rfl
  have g2 : DataW.trod enc Tryz.prog W 0 (fun _ => true) true n 23 [c2] = some y2 := by simpa [Value.cells, cellsSN] using hfl 2 _ rfl
  have g3 : DataW.trod enc Tryz.prog W 0 (fun _ => true) true n 22 [c3] = some y3 := by simpa [Value.cells, cellsSI] using hfl 3 _ rfl
  have g4 : DataW.trod enc Tryz.prog W 0 (fun _ => true) true n 22 [c4] = some y4 := by simpa [Value.cells, cellsSI] using hfl 4 _ rfl
  have g5 : DataW.trod enc Tryz.prog W 0 (fun _ => true) true n 24 [c5] = some y5 := by simpa [Value.cells, cellsSC] using hfl 5 _ rfl
  obtain ⟨s, e0, rfl, _⟩ := DataW.trod_string Tryz.underlying9 g0
  obtain rfl : c0 = .string s := by simpa using e0
  obtain ⟨a1, n1, k1, rfl⟩ := slice_shape Tryz.underlying22 g1
  obtain ⟨a2, n2, k2, rfl⟩ := slice_shape Tryz.underlying23 g2
  obtain ⟨a3, n3, k3, rfl⟩ := slice_shape Tryz.underlying22 g3
  obtain ⟨a4, n4, k4, rfl⟩ := slice_shape Tryz.underlying22 g4
  obtain ⟨a5, n5, k5, rfl⟩ := slice_shape Tryz.underlying24 g5
  obtain ⟨l1, p1, q1, L1, _, w1⟩ := open_il g1 rfl
  obtain ⟨l2, p2, _, L2, _, w2⟩ := open_nl g2 rfl
  obtain ⟨l3, p3, _, L3, _, w3⟩ := open_il g3 rfl
  obtain ⟨l4, p4, _, L4, _, w4⟩ := open_il g4 rfl
  obtain ⟨l5, p5, L5, I5, w5⟩ := open_cd g5 rfl
  have hd' : d = .agg [.lit (.string s.data.toList), y1.1, y2.1, y3.1, y4.1, y5.1] := congrArg Prod.fst hx
  subst hd'
  have hin : (DataW.weightsEach Tryz.prog [9, 22, 23, 22, 22, 24] [.lit (.string s.data.toList), y1.1, y2.1, y3.1, y4.1, y5.1]).all (· ≤ reachBytes) = true := List.all_eq_true.2 fun k hk => List.all_eq_true.1 hsz k (DataW.weights_mem_each ht hd k (by
    simp only [DataW.weights, Tryz.underlying26]; exact hk))
  have lw : ∀ {l : List Int} {len : Nat} {y : DataW H × List MemPlace}, ((y.1 = .nil ∧ len = 0) ∨ ∃ el sp, y.1 = .slice el sp ∧ el = l.map fun z => .lit (.int .i64 z)) → l.length = len → (y.1 = .nil ∧ len = 0) ∨ ∃ el sp, y.1 = .slice el sp ∧ el.length = len := fun hw hp => by
    rcases hw with hw | ⟨el, sp, e1, e2⟩
    · exact .inl hw
    · exact .inr ⟨el, sp, e1, by rw [e2, List.length_map, hp]⟩
  have z1 := len_sized hin (j := 1) rfl rfl Tryz.underlying22 (lw w1 p1)
  have z2 := len_sized hin (j := 2) rfl rfl Tryz.underlying23 (lw w2 p2)
  have z3 := len_sized hin (j := 3) rfl rfl Tryz.underlying22 (lw w3 p3)
  have z4 := len_sized hin (j := 4) rfl rfl Tryz.underlying22 (lw w4 p4)
  have z5 := len_sized hin (j := 5) rfl rfl Tryz.underlying24 w5
  have z0 := sized_string hin (j := 0) rfl rfl
  have hr : reachBytes = 140737488351232 := by decide
  rw [bytes3] at z1 z3 z4
  rw [bytes2] at z2
  rw [bytesI] at z5
  refine ⟨_, _, _, _, _, _, ⟨s.data.toList, l1, l2, l3, l4, l5⟩, rfl, ⟨by cases s; rfl, L1, L2, L3, L4, L5⟩, fun a n c e => by injection e with _ e1 e2; omega, ⟨?_, ?_, ?_, ?_, ?_⟩, by rw [hr] at z0; exact z0, I5⟩
  · show l1.length ≤ _; omega
  · show l2.length ≤ _; omega
  · show l3.length ≤ _; omega
  · show l4.length ≤ _; omega
  · show l5.length ≤ _; omega
end Go.Proofs.YtmbgcpmapaedcaaGreatDoor
