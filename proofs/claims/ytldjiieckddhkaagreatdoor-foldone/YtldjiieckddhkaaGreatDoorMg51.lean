/- Slices of tokens and of parts among the arguments, opened. | FoldOne's contract, as its row asks for it. -/
import Derived.Test.YtldjiieckddhkaaGreatDoorFrame
import Derived.Test.YtldjiieckddhkaaGreatDoorMg50
import Derived.Deep.Slices
import Derived.LaidLaws
import Derived.SizedLaws
namespace Go.Proofs.YtldjiieckddhkaaGreatDoor
open Go.ChangeShapes Go.WideShapes Go.ChangeAt Go.RowKit
theorem laidOut : laidOutB Tryz.prog = true := by kernel_rfl
theorem five {α : Type} {l : List α} (h : l.length = 5) : ∃ a b c d e, l = [a, b, c, d, e] := by
  match l, h with
  | [a, b, c, d, e], _ => exact ⟨a, b, c, d, e, rfl⟩
theorem wf_int {n : Int} (hw : (Lit.int .i64 n).wf = true) : -9223372036854775808 ≤ n ∧ n ≤ 9223372036854775807 := by
  have h : (decide (IntKind.i64.min ≤ n) && decide (n ≤ IntKind.i64.max)) = true := hw
  rw [Bool.and_eq_true] at h
  exact ⟨of_decide_eq_true h.1, of_decide_eq_true h.2⟩
/-- a list of tokens that can come in -/
def OkP (l : List Pv) : Prop := l.length * 56 ≤ 140737488351232 ∧ ∀ x ∈ l, x.s.size ≤ 140737488351232 ∧ x.f.size ≤ 140737488351232 ∧ (-9223372036854775808 ≤ x.n ∧ x.n ≤ 9223372036854775807)
theorem cells46 : Tryz.prog.cellsOf 38 = 5 := by kernel_rfl
theorem bytes46 : Tryz.prog.bytesOf 38 = 56 := by kernel_rfl
/-- a part's data -/
def pvD {H : Type} (y : Pv) : DataW H := .agg [.lit (.int .i64 y.k), .lit (.int .i64 y.n), .lit (.int .i64 y.t), .lit (.string y.s.data.toList), .lit (.string y.f.data.toList)]
theorem open_parts {H : Type} {enc : TypeId × Value → H} {W : World} {fuel len cap : Nat} {a : Option Addr} {x : DataW H × List MemPlace} {cs : List Value} (h : DataW.trod enc Tryz.prog W 0 (fun _ => true) true fuel 23 cs = some x) (hcs0 : cs = [.slice a len cap]) :
    ∃ l : List Pv, l.length = len ∧ len ≤ cap ∧ PLst W (.slice a len cap) l ∧ (∀ y ∈ l, -9223372036854775808 ≤ y.n ∧ y.n ≤ 9223372036854775807) ∧ ((x.1 = .nil ∧ len = 0) ∨ ∃ el sp, x.1 = .slice el sp ∧ el = l.map pvD) := by
  subst hcs0
  rcases Deep.open_slice Tryz.underlying23 h with ⟨hcs, rfl⟩ | ⟨a', len', cap', m, n, D, Pl, hcs, hb, hl, hm, hmm, rfl, hx⟩
  · simp at hcs
    obtain ⟨rfl, rfl, rfl⟩ := hcs
    exact ⟨[], rfl, Nat.le_refl _, ⟨none, 0, 0, 0, rfl, fun h => absurd h (Nat.lt_irrefl 0), fun i x hx => (by cases hx)⟩, fun y hy => (by cases hy), .inl ⟨rfl, rfl⟩⟩
  · simp at hcs
    obtain ⟨rfl, rfl, rfl⟩ := hcs
    simp only [if_true] at hmm
    subst hmm
    rw [cells46] at hx
    have each : ∀ i, i < len → ∃ y : Pv, W.cell? (a'.add (i * 5)) = some (.int .i64 y.k) ∧ W.cell? (a'.add (i * 5 + 1)) = some (.int .i64 y.n) ∧ W.cell? (a'.add (i * 5 + 2)) = some (.int .i64 y.t) ∧ W.cell? (a'.add (i * 5 + 3)) = some (.string y.s) ∧ W.cell? (a'.add (i * 5 + 4)) = some (.string y.f) ∧ (-9223372036854775808 ≤ y.n ∧ y.n ≤ 9223372036854775807) ∧ D i = pvD y := fun i hi => by
      obtain ⟨cs', h1, h2⟩ := hx i (by omega)
      obtain ⟨_, hlen, hcell⟩ := World.cells?_some h1
      obtain ⟨xs, k, hk, hxy, _, hxl, hf⟩ := DataW.trod_struct Tryz.underlying38 h2
      obtain ⟨v0, v1, v2, v3, v4, rfl⟩ := five hlen
      obtain ⟨y0, y1, y2, y3, y4, rfl⟩ := five hxl
      have g0 := hf 0 _ rfl
      have g1 := hf 1 _ rfl
      have g2 := hf 2 _ rfl
      have g3 := hf 3 _ rfl
      have g4 := hf 4 _ rfl
      have g0' : DataW.trod enc Tryz.prog W 0 (fun _ => true) true k 3 [v0] = some y0 := by simpa [cells3] using g0
      have g1' : DataW.trod enc Tryz.prog W 0 (fun _ => true) true k 2 [v1] = some y1 := by simpa [cells2] using g1
      have g2' : DataW.trod enc Tryz.prog W 0 (fun _ => true) true k 3 [v2] = some y2 := by simpa [cells3] using g2
      have g3' : DataW.trod enc Tryz.prog W 0 (fun _ => true) true k 9 [v3] = some y3 := by simpa [cells9] using g3
      have g4' : DataW.trod enc Tryz.prog W 0 (fun _ => true) true k 9 [v4] = some y4 := by simpa [cells9] using g4
      obtain ⟨z0, e0, E0, _⟩ := DataW.trod_int Tryz.underlying3 g0'
      obtain ⟨z1, e1, E1, hw⟩ := DataW.trod_int Tryz.underlying2 g1'
      obtain ⟨z2, e2, E2, _⟩ := DataW.trod_int Tryz.underlying3 g2'
      obtain ⟨s, e3, E3, _⟩ := DataW.trod_string Tryz.underlying9 g3'
      obtain ⟨f, e4, E4, _⟩ := DataW.trod_string Tryz.underlying9 g4'
      have d0 := hcell 0 (by omega)
      have d1 := hcell 1 (by omega)
      have d2 := hcell 2 (by omega)
      have d3 := hcell 3 (by omega)
      have d4 := hcell 4 (by omega)
      rw [Deep.add_add] at d0 d1 d2 d3 d4
      injection e0 with e0
      injection e1 with e1
      injection e2 with e2
      injection e3 with e3
      injection e4 with e4
      subst e0 e1 e2 e3 e4
      refine ⟨⟨z0, z1, z2, s, f⟩, d0, d1, d2, d3, d4, wf_int hw, ?_⟩
      have hd := congrArg Prod.fst hxy
      simp only [List.map_cons, List.map_nil] at hd
      rw [hd, E0, E1, E2, E3, E4]
      rfl
    obtain ⟨f, hf⟩ := @Deep.choose_lt Pv ⟨⟨0, 0, 0, ⟨#[]⟩, ⟨#[]⟩⟩⟩ _ _ each
    refine ⟨(List.range len).map f, by simp, hl, ?_, ?_, .inr ⟨_, _, rfl, ?_⟩⟩
    · by_cases hl0 : len = 0
      · subst hl0
        exact ⟨some a', 0, 0, m, rfl, fun h => absurd h (Nat.lt_irrefl 0), fun i x hx => by cases hx⟩
      · obtain ⟨b, off, spot⟩ := a'
        have hspot : spot = none := by simpa [Addr.add] using World.cell?_spot (hf 0 (by omega)).1
        subst hspot
        have hbW : b < W.heap.size := World.block_lt_of_cell? W _ (by have := (hf 0 (by omega)).1; rwa [Addr.add_mid] at this)
        refine ⟨some ⟨b, off, none⟩, b, off, m, by simp, fun _ => ⟨hbW, rfl⟩, fun i y hy => ?_⟩
        have hi : i < len := by have := (List.getElem?_eq_some_iff.1 hy).1; simpa using this
        have hfy : f i = y := by simpa [hi] using hy
        obtain ⟨q0, q1, q2, q3, q4, _⟩ := hf i hi
        rw [Addr.add_mid] at q0 q1 q2 q3 q4
        rw [hfy] at q0 q1 q2 q3 q4
        exact ⟨q0, by rw [Nat.add_assoc]; exact q1, by rw [Nat.add_assoc]; exact q2, by rw [Nat.add_assoc]; exact q3, by rw [Nat.add_assoc]; exact q4⟩
    · intro y hy
      obtain ⟨i, hi, rfl⟩ := List.mem_map.1 hy
      exact (hf i (List.mem_range.1 hi)).2.2.2.2.2.1
    · rw [List.map_map]
      exact List.map_congr_left fun i hi => (hf i (List.mem_range.1 hi)).2.2.2.2.2.2
theorem weights_all {H : Type} {P : Program} {e : TypeId} : ∀ {ds : List (DataW H)} {d : DataW H}, d ∈ ds → ∀ n ∈ d.weights P e, n ∈ DataW.weightsAll P e ds
  | c :: ds, d, hd, n, hn => by
    simp only [DataW.weightsAll, List.mem_append]
    rcases List.mem_cons.1 hd with rfl | hd
    · exact .inl hn
    · exact .inr (weights_all hd n hn)
set_option maxRecDepth 100000 in
theorem okP_of {H : Type} {ts : List TypeId} {ds : List (DataW H)} {j : Nat} {l : List Pv} {el sp : List (DataW H)} (hsz : (DataW.weightsEach Tryz.prog ts ds).all (· ≤ reachBytes) = true) (ht : ts[j]? = some 23) (hd : ds[j]? = some (.slice el sp)) (he : el = l.map pvD)
    (hn : ∀ y ∈ l, -9223372036854775808 ≤ y.n ∧ y.n ≤ 9223372036854775807) : OkP l := by
  have hr : reachBytes = 140737488351232 := by decide
  have key : ∀ x ∈ l, ∀ n ∈ (pvD (H := H) x).weights Tryz.prog 38, n ≤ 140737488351232 := fun x hx n hm => by
    have h := List.all_eq_true.1 hsz _ (DataW.weights_mem_each ht hd n (by
      simp only [DataW.weights, Tryz.underlying23, List.mem_cons, List.mem_append]
      exact .inr (.inl (weights_all (by rw [he]; exact List.mem_map_of_mem hx) _ hm))))
    rw [hr] at h
    exact of_decide_eq_true h
  refine ⟨?_, fun x hx => ⟨?_, ?_, hn x hx⟩⟩
  · have h := sized_slice hsz ht hd Tryz.underlying23
    rw [bytes46, he, List.length_map, hr] at h
    omega
  · have := key x hx x.s.data.toList.length (by
      simp only [pvD, DataW.weights, Tryz.underlying38]
      refine List.mem_append_right _ (List.mem_append_right _ (List.mem_append_right _ (List.mem_append_left _ ?_)))
      simp only [DataW.weights]
      exact List.mem_singleton.2 rfl)
    rw [Array.length_toList] at this
    exact this
  · have := key x hx x.f.data.toList.length (by
      simp only [pvD, DataW.weights, Tryz.underlying38]
      refine List.mem_append_right _ (List.mem_append_right _ (List.mem_append_right _ (List.mem_append_right _ (List.mem_append_left _ ?_))))
      simp only [DataW.weights]
      exact List.mem_singleton.2 rfl)
    rw [Array.length_toList] at this
    exact this
end Go.Proofs.YtldjiieckddhkaaGreatDoor
namespace Go.Proofs.YtldjiieckddhkaaGreatDoor
open Go.RowKit
theorem strOk_of {l : List Pv} (h : OkP l) : StrOk l := fun y hy => ⟨Nat.le_trans (h.2 y hy).1 (by decide), Nat.le_trans (h.2 y hy).2.1 (by decide)⟩
theorem one_row (vx : Value) (x : List Pv) (vy : Value) (y : List Pv) (k : Int) (w : World) (hX : PLst w vx x) (_ : ∀ a n cap, vx = .slice a n cap → n ≤ cap) (ox : OkP x) (hY : PLst w vy y) (_ : ∀ a n cap, vy = .slice a n cap → n ≤ cap) (oy : OkP y) (hg : Glo w) :
    Calls Tryz.prog 6 #[vx, vy, .int .i64 k] w fun e w' => e = .returned (.bool true) ∧ Below w.heap.size w w' :=
  foldOne_any vx vy x y k w hX (by have := ox.1; omega) (strOk_of ox) hY (by have := oy.1; omega) (strOk_of oy) hg
end Go.Proofs.YtldjiieckddhkaaGreatDoor
