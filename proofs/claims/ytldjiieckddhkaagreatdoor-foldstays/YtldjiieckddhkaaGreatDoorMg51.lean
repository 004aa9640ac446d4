/- Slices of tokens and of parts among the arguments, opened. | A slice of variables among the arguments, opened. | FoldNames and FoldStays, plain: what is resolved and what is folded has the same names; it is not longer; resolved or folded anew it stays. -/
import Derived.Test.YtldjiieckddhkaaGreatDoorFrame
import Derived.Test.YtldjiieckddhkaaGreatDoorMg50
import Derived.Deep.Slices
import Derived.LaidLaws
import Derived.SizedLaws
import Derived.Test.YtldjiieckddhkaaGreatDoorMg18
import Derived.Test.YtldjiieckddhkaaGreatDoorMg36
namespace Go.Proofs.YtldjiieckddhkaaGreatDoor
open Go.ChangeShapes Go.WideShapes Go.ChangeAt Go.RowKit
theorem laidOut : laidOutB Tryz.prog = true := by kernel_rfl
theorem five {α : Type} {l : List α} (h : l.length = 5) : ∃ a b c d e, l = [a, b, c, d, e] := by
  match l, h with
  | [a, b, c, d, e], _ => exact ⟨a, b, c, d, e, rfl⟩
theorem wf_int {n : Int} (hw : (Lit.int .i64 n).wf = true) : -9223372036854775808 ≤ n ∧ n ≤ 9223372036854775807 := by
  have h : (decide (IntKind.i64.min ≤ n) && decide (n ≤ IntKind.i64.max)) = true := hw
  rw [Bool.and_eq_true] at h
  exact ⟨of_decide_eq_true h.1, of_decide_eq_true h.2⟩
/-- a list of tokens that can come in -/
def OkP (l : List Pv) : Prop := l.length * 56 ≤ 140737488351232 ∧ ∀ x ∈ l, x.s.size ≤ 140737488351232 ∧ x.f.size ≤ 140737488351232 ∧ (-9223372036854775808 ≤ x.n ∧ x.n ≤ 9223372036854775807)
theorem cells46 : Tryz.prog.cellsOf 38 = 5 := by kernel_rfl
theorem bytes46 : Tryz.prog.bytesOf 38 = 56 := by kernel_rfl
/-- a part's data -/
def pvD {H : Type} (y : Pv) : DataW H := .agg [.lit (.int .i64 y.k), .lit (.int .i64 y.n), .lit (.int .i64 y.t), .lit (.string y.s.data.toList), .lit (.string y.f.data.toList)]
theorem open_parts {H : Type} {enc : TypeId × Value → H} {W : World} {fuel len cap : Nat} {a : Option Addr} {x : DataW H × List MemPlace} {cs : List Value} (h : DataW.trod enc Tryz.prog W 0 (fun _ => true) true fuel 23 cs = some x) (hcs0 : cs = [.slice a len cap]) :
    ∃ l : List Pv, l.length = len ∧ len ≤ cap ∧ PLst W (.slice a len cap) l ∧ (∀ y ∈ l, -9223372036854775808 ≤ y.n ∧ y.n ≤ 9223372036854775807) ∧ ((x.1 = .nil ∧ len = 0) ∨ ∃ el sp, x.1 = .slice el sp ∧ el = l.map pvD) := by
  subst hcs0
  rcases Deep.open_slice Tryz.underlying23 h with ⟨hcs, rfl⟩ | ⟨a', len', cap', m, n, D, Pl, hcs, hb, hl, hm, hmm, rfl, hx⟩
  · simp at hcs
    obtain ⟨rfl, rfl, rfl⟩ := hcs
    exact ⟨[], rfl, Nat.le_refl _, ⟨none, 0, 0, 0, rfl, fun h => absurd h (Nat.lt_irrefl 0), fun i x hx => (by cases hx)⟩, fun y hy => (by cases hy), .inl ⟨rfl, rfl⟩⟩
  · simp at hcs
    obtain ⟨rfl, rfl, rfl⟩ := hcs
    simp only [if_true] at hmm
    subst hmm
    rw [cells46] at hx
    have each : ∀ i, i < len → ∃ y : Pv, W.cell? (a'.add (i * 5)) = some (.int .i64 y.k) ∧ W.cell? (a'.add (i * 5 + 1)) = some (.int .i64 y.n) ∧ W.cell? (a'.add (i * 5 + 2)) = some (.int .i64 y.t) ∧ W.cell? (a'.add (i * 5 + 3)) = some (.string y.s) ∧ W.cell? (a'.add (i * 5 + 4)) = some (.string y.f) ∧ (-9223372036854775808 ≤ y.n ∧ y.n ≤ 9223372036854775807) ∧ D i = pvD y := fun i hi => by
      obtain ⟨cs', h1, h2⟩ := hx i (by omega)
      obtain ⟨_, hlen, hcell⟩ := World.cells?_some h1
      obtain ⟨xs, k, hk, hxy, _, hxl, hf⟩ := DataW.trod_struct Tryz.underlying38 h2
      obtain ⟨v0, v1, v2, v3, v4, rfl⟩ := five hlen
      obtain ⟨y0, y1, y2, y3, y4, rfl⟩ := five hxl
      have g0 := hf 0 _ rfl
      have g1 := hf 1 _ rfl
      have g2 := hf 2 _ rfl
      have g3 := hf 3 _ rfl
      have g4 := hf 4 _ rfl
      have g0' : DataW.trod enc Tryz.prog W 0 (fun _ => true) true k 3 [v0] = some y0 := by simpa [cells3] using g0
      have g1' : DataW.trod enc Tryz.prog W 0 (fun _ => true) true k 2 [v1] = some y1 := by simpa [cells2] using g1
      have g2' : DataW.trod enc Tryz.prog W 0 (fun _ => true) true k 3 [v2] = some y2 := by simpa [cells3] using g2
      have g3' : DataW.trod enc Tryz.prog W 0 (fun _ => true) true k 9 [v3] = some y3 := by simpa [cells9] using g3
      have g4' : DataW.trod enc Tryz.prog W 0 (fun _ => true) true k 9 [v4] = some y4 := by simpa [cells9] using g4
      obtain ⟨z0, e0, E0, _⟩ := DataW.trod_int Tryz.underlying3 g0'
      obtain ⟨z1, e1, E1, hw⟩ := DataW.trod_int Tryz.underlying2 g1'
      obtain ⟨z2, e2, E2, _⟩ := DataW.trod_int Tryz.underlying3 g2'
      obtain ⟨s, e3, E3, _⟩ := DataW.trod_string Tryz.underlying9 g3'
      obtain ⟨f, e4, E4, _⟩ := DataW.trod_string Tryz.underlying9 g4'
      have d0 := hcell 0 (by omega)
      have d1 := hcell 1 (by omega)
      have d2 := hcell 2 (by omega)
      have d3 := hcell 3 (by omega)
      have d4 := hcell 4 (by omega)
      rw [Deep.add_add] at d0 d1 d2 d3 d4
      injection e0 with e0
      injection e1 with e1
      injection e2 with e2
      injection e3 with e3
      injection e4 with e4
      subst e0 e1 e2 e3 e4
      refine ⟨⟨z0, z1, z2, s, f⟩, d0, d1, d2, d3, d4, wf_int hw, ?_⟩
      have hd := congrArg Prod.fst hxy
      simp only [List.map_cons, List.map_nil] at hd
      rw [hd, E0, E1, E2, E3, E4]
      rfl
    obtain ⟨f, hf⟩ := @Deep.choose_lt Pv ⟨⟨0, 0, 0, ⟨#[]⟩, ⟨#[]⟩⟩⟩ _ _ each
    refine ⟨(List.range len).map f, by simp, hl, ?_, ?_, .inr ⟨_, _, rfl, ?_⟩⟩
    · by_cases hl0 : len = 0
      · subst hl0
        exact ⟨some a', 0, 0, m, rfl, fun h => absurd h (Nat.lt_irrefl 0), fun i x hx => by cases hx⟩
      · obtain ⟨b, off, spot⟩ := a'
        have hspot : spot = none := by simpa [Addr.add] using World.cell?_spot (hf 0 (by omega)).1
        subst hspot
        have hbW : b < W.heap.size := World.block_lt_of_cell? W _ (by have := (hf 0 (by omega)).1; rwa [Addr.add_mid] at this)
        refine ⟨some ⟨b, off, none⟩, b, off, m, by simp, fun _ => ⟨hbW, rfl⟩, fun i y hy => ?_⟩
        have hi : i < len := by have := (List.getElem?_eq_some_iff.1 hy).1; simpa using this
        have hfy : f i = y := by simpa [hi] using hy
        obtain ⟨q0, q1, q2, q3, q4, _⟩ := hf i hi
        rw [Addr.add_mid] at q0 q1 q2 q3 q4
        rw [hfy] at q0 q1 q2 q3 q4
        exact ⟨q0, by rw [Nat.add_assoc]; exact q1, by rw [Nat.add_assoc]; exact q2, by rw [Nat.add_assoc]; exact q3, by rw [Nat.add_assoc]; exact q4⟩
    · intro y hy
      obtain ⟨i, hi, rfl⟩ := List.mem_map.1 hy
      exact (hf i (List.mem_range.1 hi)).2.2.2.2.2.1
    · rw [List.map_map]
      exact List.map_congr_left fun i hi => (hf i (List.mem_range.1 hi)).2.2.2.2.2.2
theorem weights_all {H : Type} {P : Program} {e : TypeId} : ∀ {ds : List (DataW H)} {d : DataW H}, d ∈ ds → ∀ n ∈ d.weights P e, n ∈ DataW.weightsAll P e ds
  | c :: ds, d, hd, n, hn => by
    simp only [DataW.weightsAll, List.mem_append]
    rcases List.mem_cons.1 hd with rfl | hd
    · exact .inl hn
    · exact .inr (weights_all hd n hn)
set_option maxRecDepth 100000 in
theorem okP_of {H : Type} {ts : List TypeId} {ds : List (DataW H)} {j : Nat} {l : List Pv} {el sp : List (DataW H)} (hsz : (DataW.weightsEach Tryz.prog ts ds).all (· ≤ reachBytes) = true) (ht : ts[j]? = some 23) (hd : ds[j]? = some (.slice el sp)) (he : el = l.map pvD)
    (hn : ∀ y ∈ l, -9223372036854775808 ≤ y.n ∧ y.n ≤ 9223372036854775807) : OkP l := by
  have hr : reachBytes = 140737488351232 := by decide
  have key : ∀ x ∈ l, ∀ n ∈ (pvD (H := H) x).weights Tryz.prog 38, n ≤ 140737488351232 := fun x hx n hm => by
    have h := List.all_eq_true.1 hsz _ (DataW.weights_mem_each ht hd n (by
      simp only [DataW.weights, Tryz.underlying23, List.mem_cons, List.mem_append]
      exact .inr (.inl (weights_all (by rw [he]; exact List.mem_map_of_mem hx) _ hm))))
    rw [hr] at h
    exact of_decide_eq_true h
  refine ⟨?_, fun x hx => ⟨?_, ?_, hn x hx⟩⟩
  · have h := sized_slice hsz ht hd Tryz.underlying23
    rw [bytes46, he, List.length_map, hr] at h
    omega
  · have := key x hx x.s.data.toList.length (by
      simp only [pvD, DataW.weights, Tryz.underlying38]
      refine List.mem_append_right _ (List.mem_append_right _ (List.mem_append_right _ (List.mem_append_left _ ?_)))
      simp only [DataW.weights]
      exact List.mem_singleton.2 rfl)
    rw [Array.length_toList] at this
    exact this
  · have := key x hx x.f.data.toList.length (by
      simp only [pvD, DataW.weights, Tryz.underlying38]
      refine List.mem_append_right _ (List.mem_append_right _ (List.mem_append_right _ (List.mem_append_right _ (List.mem_append_left _ ?_))))
      simp only [DataW.weights]
      exact List.mem_singleton.2 rfl)
    rw [Array.length_toList] at this
    exact this
end Go.Proofs.YtldjiieckddhkaaGreatDoor
namespace Go.Proofs.YtldjiieckddhkaaGreatDoor
open Go.ChangeShapes Go.WideShapes Go.ChangeAt Go.RowKit
theorem cells50 : Tryz.prog.cellsOf 50 = 5 := by kernel_rfl
theorem bytes50 : Tryz.prog.bytesOf 50 = 48 := by kernel_rfl
/-- a variable's data -/
def vvD {H : Type} (y : Vv) : DataW H := .agg [.lit (.string y.s.data.toList), .lit (.int .i64 y.ty), .lit (.int .i64 y.len), .lit (.int .i64 y.init), .lit (.int .i64 y.dir)]
theorem open_vars {H : Type} {enc : TypeId × Value → H} {W : World} {fuel len cap : Nat} {a : Option Addr} {x : DataW H × List MemPlace} {cs : List Value} (h : DataW.trod enc Tryz.prog W 0 (fun _ => true) true fuel 22 cs = some x) (hcs0 : cs = [.slice a len cap]) :
    ∃ l : List Vv, l.length = len ∧ len ≤ cap ∧ VLst W (.slice a len cap) l ∧ ((x.1 = .nil ∧ len = 0) ∨ ∃ el sp, x.1 = .slice el sp ∧ el = l.map vvD) := by
  subst hcs0
  rcases Deep.open_slice Tryz.underlying22 h with ⟨hcs, rfl⟩ | ⟨a', len', cap', m, n, D, Pl, hcs, hb, hl, hm, hmm, rfl, hx⟩
  · simp at hcs
    obtain ⟨rfl, rfl, rfl⟩ := hcs
    exact ⟨[], rfl, Nat.le_refl _, ⟨none, 0, 0, 0, rfl, fun h => absurd h (Nat.lt_irrefl 0), fun i x hx => (by cases hx)⟩, .inl ⟨rfl, rfl⟩⟩
  · simp at hcs
    obtain ⟨rfl, rfl, rfl⟩ := hcs
    simp only [if_true] at hmm
    subst hmm
    rw [cells50] at hx
    have each : ∀ i, i < len → ∃ y : Vv, W.cell? (a'.add (i * 5)) = some (.string y.s) ∧ W.cell? (a'.add (i * 5 + 1)) = some (.int .i64 y.ty) ∧ W.cell? (a'.add (i * 5 + 2)) = some (.int .i64 y.len) ∧ W.cell? (a'.add (i * 5 + 3)) = some (.int .i64 y.init) ∧ W.cell? (a'.add (i * 5 + 4)) = some (.int .i64 y.dir) ∧ D i = vvD y := fun i hi => by
      obtain ⟨cs', h1, h2⟩ := hx i (by omega)
      obtain ⟨_, hlen, hcell⟩ := World.cells?_some h1
      obtain ⟨xs, k, hk, hxy, _, hxl, hf⟩ := DataW.trod_struct Tryz.underlying50 h2
      obtain ⟨v0, v1, v2, v3, v4, rfl⟩ := five hlen
      obtain ⟨y0, y1, y2, y3, y4, rfl⟩ := five hxl
      have g0 := hf 0 _ rfl
      have g1 := hf 1 _ rfl
      have g2 := hf 2 _ rfl
      have g3 := hf 3 _ rfl
      have g4 := hf 4 _ rfl
      have g0' : DataW.trod enc Tryz.prog W 0 (fun _ => true) true k 9 [v0] = some y0 := by simpa [cells9] using g0
      have g1' : DataW.trod enc Tryz.prog W 0 (fun _ => true) true k 3 [v1] = some y1 := by simpa [cells3] using g1
      have g2' : DataW.trod enc Tryz.prog W 0 (fun _ => true) true k 3 [v2] = some y2 := by simpa [cells3] using g2
      have g3' : DataW.trod enc Tryz.prog W 0 (fun _ => true) true k 2 [v3] = some y3 := by simpa [cells2] using g3
      have g4' : DataW.trod enc Tryz.prog W 0 (fun _ => true) true k 3 [v4] = some y4 := by simpa [cells3] using g4
      obtain ⟨z0, e0, E0, _⟩ := DataW.trod_string Tryz.underlying9 g0'
      obtain ⟨z1, e1, E1, _⟩ := DataW.trod_int Tryz.underlying3 g1'
      obtain ⟨z2, e2, E2, _⟩ := DataW.trod_int Tryz.underlying3 g2'
      obtain ⟨z3, e3, E3, _⟩ := DataW.trod_int Tryz.underlying2 g3'
      obtain ⟨z4, e4, E4, _⟩ := DataW.trod_int Tryz.underlying3 g4'
      have d0 := hcell 0 (by omega)
      have d1 := hcell 1 (by omega)
      have d2 := hcell 2 (by omega)
      have d3 := hcell 3 (by omega)
      have d4 := hcell 4 (by omega)
      rw [Deep.add_add] at d0 d1 d2 d3 d4
      injection e0 with e0
      injection e1 with e1
      injection e2 with e2
      injection e3 with e3
      injection e4 with e4
      subst e0 e1 e2 e3 e4
      refine ⟨⟨z0, z1, z2, z3, z4⟩, d0, d1, d2, d3, d4, ?_⟩
      have hd := congrArg Prod.fst hxy
      simp only [List.map_cons, List.map_nil] at hd
      rw [hd, E0, E1, E2, E3, E4]
      rfl
    obtain ⟨f, hf⟩ := @Deep.choose_lt Vv ⟨⟨⟨#[]⟩, 0, 0, 0, 0⟩⟩ _ _ each
    refine ⟨(List.range len).map f, by simp, hl, ?_, .inr ⟨_, _, rfl, ?_⟩⟩
    · by_cases hl0 : len = 0
      · subst hl0
        exact ⟨some a', 0, 0, m, rfl, fun h => absurd h (Nat.lt_irrefl 0), fun i x hx => by cases hx⟩
      · obtain ⟨b, off, spot⟩ := a'
        have hspot : spot = none := by simpa [Addr.add] using World.cell?_spot (hf 0 (by omega)).1
        subst hspot
        have hbW : b < W.heap.size := World.block_lt_of_cell? W _ (by have := (hf 0 (by omega)).1; rwa [Addr.add_mid] at this)
        refine ⟨some ⟨b, off, none⟩, b, off, m, by simp, fun _ => ⟨hbW, rfl⟩, fun i y hy => ?_⟩
        have hi : i < len := by have := (List.getElem?_eq_some_iff.1 hy).1; simpa using this
        have hfy : f i = y := by simpa [hi] using hy
        obtain ⟨q0, q1, q2, q3, q4, _⟩ := hf i hi
        rw [Addr.add_mid] at q0 q1 q2 q3 q4
        rw [hfy] at q0 q1 q2 q3 q4
        exact ⟨q0, by rw [Nat.add_assoc]; exact q1, by rw [Nat.add_assoc]; exact q2, by rw [Nat.add_assoc]; exact q3, by rw [Nat.add_assoc]; exact q4⟩
    · rw [List.map_map]
      exact List.map_congr_left fun i hi => (hf i (List.mem_range.1 hi)).2.2.2.2.2
theorem lenV_of {H : Type} {ts : List TypeId} {ds : List (DataW H)} {j : Nat} {l : List Vv} {el sp : List (DataW H)} (hsz : (DataW.weightsEach Tryz.prog ts ds).all (· ≤ reachBytes) = true) (ht : ts[j]? = some 22) (hd : ds[j]? = some (.slice el sp)) (he : el = l.map vvD) : l.length * 48 ≤ 140737488351232 := by
  have hr : reachBytes = 140737488351232 := by decide
  have h := sized_slice hsz ht hd Tryz.underlying22
  rw [bytes50, he, List.length_map, hr] at h
  omega
end Go.Proofs.YtldjiieckddhkaaGreatDoor
namespace Go.Proofs.YtldjiieckddhkaaGreatDoor
/-- the names of parts, in their order -/
def nmL (x : List Pt) : List Bs := (x.map Pt.s).filter (fun s => decide (s ≠ []))
theorem nmL_app (a b : List Pt) : nmL (a ++ b) = nmL a ++ nmL b := by unfold nmL; rw [List.map_append, List.filter_append]
theorem fold_nm : ∀ (x : List Pt) (out : List Bs), x.foldl (fun out p => if p.s = [] then out else insN out p.s) out = (nmL x).foldl insN out
  | [], _ => rfl
  | p :: x, out => by
    have e : nmL (p :: x) = nmL [p] ++ nmL x := nmL_app [p] x
    rw [List.foldl_cons, fold_nm x, e, List.foldl_append]
    by_cases h : p.s = []
    · rw [if_pos h]
      have : nmL [p] = [] := by simp [nmL, h]
      rw [this]; rfl
    · rw [if_neg h]
      have : nmL [p] = [p.s] := by simp [nmL, h]
      rw [this]; rfl
theorem names_nm (x : List Pt) : namesP x = (nmL x).foldl insN [] := fold_nm x []
theorem give1_s (t : Int) (p : Pt) : (give1 t p).s = p.s := by
  unfold give1
  split <;> rfl
theorem giveT_nm (t : Int) : ∀ e : Ex, nmL (flat (giveT t e)) = nmL (flat e)
  | .leaf p => by
    show nmL [give1 t p] = nmL [p]
    unfold nmL
    rw [List.map_singleton, List.map_singleton, give1_s]
  | .one p e => by
    show nmL (flat (giveT t e) ++ [p]) = nmL (flat e ++ [p])
    rw [nmL_app, nmL_app, giveT_nm t e]
  | .two p a b => by
    show nmL (flat (giveT t a) ++ (flat (giveT t b) ++ [p])) = nmL (flat a ++ (flat b ++ [p]))
    rw [nmL_app, nmL_app, nmL_app, nmL_app, giveT_nm t a, giveT_nm t b]
theorem giveT_len (t : Int) : ∀ e : Ex, (flat (giveT t e)).length = (flat e).length
  | .leaf p => rfl
  | .one p e => by
    show (flat (giveT t e) ++ [p]).length = (flat e ++ [p]).length
    rw [List.length_append, List.length_append, giveT_len t e]
  | .two p a b => by
    show (flat (giveT t a) ++ (flat (giveT t b) ++ [p])).length = (flat a ++ (flat b ++ [p])).length
    simp only [List.length_append, giveT_len t a, giveT_len t b]
theorem resE_nm (vs : List Vr) : ∀ e : Ex, nmL (flat (resE vs e)) = nmL (flat e)
  | .leaf p => rfl
  | .one p a => by
    show nmL (flat (if _ then giveT _ (resE vs a) else resE vs a) ++ [p]) = nmL (flat a ++ [p])
    rw [nmL_app, nmL_app]
    congr 1
    split
    · rw [giveT_nm, resE_nm vs a]
    · exact resE_nm vs a
  | .two p a b => by
    show nmL (flat (if _ then giveT _ (resE vs a) else resE vs a) ++ (flat (if _ then giveT _ (resE vs b) else resE vs b) ++ [p])) = nmL (flat a ++ (flat b ++ [p]))
    rw [nmL_app, nmL_app, nmL_app, nmL_app]
    congr 1
    · split
      · rw [giveT_nm, resE_nm vs a]
      · exact resE_nm vs a
    · congr 1
      split
      · rw [giveT_nm, resE_nm vs b]
      · exact resE_nm vs b
theorem resE_len (vs : List Vr) : ∀ e : Ex, (flat (resE vs e)).length = (flat e).length
  | .leaf p => rfl
  | .one p a => by
    show (flat (if _ then giveT _ (resE vs a) else resE vs a) ++ [p]).length = (flat a ++ [p]).length
    rw [List.length_append, List.length_append]
    congr 1
    split
    · rw [giveT_len, resE_len vs a]
    · exact resE_len vs a
  | .two p a b => by
    show (flat (if _ then giveT _ (resE vs a) else resE vs a) ++ (flat (if _ then giveT _ (resE vs b) else resE vs b) ++ [p])).length = (flat a ++ (flat b ++ [p])).length
    simp only [List.length_append]
    congr 1
    · split
      · rw [giveT_len, resE_len vs a]
      · exact resE_len vs a
    · congr 1
      split
      · rw [giveT_len, resE_len vs b]
      · exact resE_len vs b
/-- what is resolved has the same names, and as many parts -/
theorem endE_nm (vs : List Vr) (e : Ex) (t : Int) : namesP (flat (endE vs e t)) = namesP (flat e) := by
  rw [names_nm, names_nm]
  congr 1
  unfold endE kid
  split
  · rw [giveT_nm, resE_nm]
  · exact resE_nm vs e
theorem endE_len (vs : List Vr) (e : Ex) (t : Int) : (flat (endE vs e t)).length = (flat e).length := by
  unfold endE kid
  split
  · rw [giveT_len, resE_len]
  · exact resE_len vs e
theorem reck_s {p q : Pt} {on : List Pt} (hm : mayP p = true) (h : reckP p on = some q) : p.s = [] ∧ q.s = [] ∧ q.kind = 1 := by
  have hk : p.kind = 5 ∨ p.kind = 6 := by
    rcases reck_form h with ⟨h1, -⟩ | ⟨h1, -⟩
    · exact .inr h1
    · exact .inl h1
  have hq : q.s = [] ∧ q.kind = 1 := by
    rcases reck_form h with ⟨-, a, r, -, -, rfl⟩ | ⟨-, h2⟩
    · exact ⟨rfl, rfl⟩
    · rcases h2 with ⟨a, -, -, rfl⟩ | ⟨a, b, r, -, -, rfl⟩
      · exact ⟨rfl, rfl⟩
      · exact ⟨rfl, rfl⟩
  refine ⟨?_, hq⟩
  unfold mayP at hm
  rcases hk with hk | hk <;> rw [hk] at hm <;> simp at hm
  · exact hm.1
  · exact hm.1
theorem num_s {p : Pt} (hk : p.kind = 1) (hm : mayP p = true) : p.s = [] := (mayp_num hk hm).1
/-- numbers within what is folded have no name; its names are the same; it is not longer -/
theorem foldE_nm : ∀ {e : Ex}, well e → InT (fun p => p.s = []) (foldE e) ∧ nmL (flat (foldE e)) = nmL (flat e) ∧ (flat (foldE e)).length ≤ (flat e).length
  | .leaf p, h => ⟨fun hk => num_s hk h.2, rfl, Nat.le_refl _⟩
  | .one p a, h => by
    obtain ⟨i1, i2, i3⟩ := foldE_nm h.2.2
    have keep : InT (fun p => p.s = []) (.one p (foldE a)) ∧ nmL (flat (.one p (foldE a))) = nmL (flat (.one p a)) ∧ (flat (.one p (foldE a))).length ≤ (flat (.one p a)).length := by
      refine ⟨i1, ?_, ?_⟩
      · show nmL (flat (foldE a) ++ [p]) = nmL (flat a ++ [p])
        rw [nmL_app, nmL_app, i2]
      · show (flat (foldE a) ++ [p]).length ≤ (flat a ++ [p]).length
        rw [List.length_append, List.length_append]; omega
    rw [foldE]
    cases hn : numOf (foldE a) with
    | none => exact keep
    | some n =>
      cases hr : reckP p [n] with
      | none => simp only [hr]; exact keep
      | some q =>
        simp only [hr]
        obtain ⟨s1, s2, s3⟩ := reck_s h.2.1 hr
        obtain ⟨e1, e2⟩ := num_of hn
        rw [e1] at i1 i2
        have hns : n.s = [] := i1 e2
        refine ⟨fun _ => s2, ?_, ?_⟩
        · show nmL [q] = nmL (flat a ++ [p])
          rw [nmL_app, ← i2]
          show nmL [q] = nmL [n] ++ nmL [p]
          simp [nmL, s1, s2, hns]
        · show 1 ≤ (flat a ++ [p]).length
          rw [List.length_append]; simp
  | .two p a b, h => by
    obtain ⟨i1, i2, i3⟩ := foldE_nm h.2.2.1
    obtain ⟨j1, j2, j3⟩ := foldE_nm h.2.2.2
    have keep : InT (fun p => p.s = []) (.two p (foldE a) (foldE b)) ∧ nmL (flat (.two p (foldE a) (foldE b))) = nmL (flat (.two p a b)) ∧ (flat (.two p (foldE a) (foldE b))).length ≤ (flat (.two p a b)).length := by
      refine ⟨⟨i1, j1⟩, ?_, ?_⟩
      · show nmL (flat (foldE a) ++ (flat (foldE b) ++ [p])) = nmL (flat a ++ (flat b ++ [p]))
        rw [nmL_app, nmL_app, nmL_app, nmL_app, i2, j2]
      · show (flat (foldE a) ++ (flat (foldE b) ++ [p])).length ≤ (flat a ++ (flat b ++ [p])).length
        simp only [List.length_append]; omega
    rw [foldE]
    cases hn : numOf (foldE a) with
    | none => exact keep
    | some n =>
      cases hm : numOf (foldE b) with
      | none => exact keep
      | some m =>
        cases hr : reckP p [n, m] with
        | none => simp only [hr]; exact keep
        | some q =>
          simp only [hr]
          obtain ⟨s1, s2, s3⟩ := reck_s h.2.1 hr
          obtain ⟨e1, e2⟩ := num_of hn
          obtain ⟨f1, f2⟩ := num_of hm
          rw [e1] at i1 i2
          rw [f1] at j1 j2
          have hns : n.s = [] := i1 e2
          have hms : m.s = [] := j1 f2
          refine ⟨fun _ => s2, ?_, ?_⟩
          · show nmL [q] = nmL (flat a ++ (flat b ++ [p]))
            rw [nmL_app, nmL_app, ← i2, ← j2]
            show nmL [q] = nmL [n] ++ (nmL [m] ++ nmL [p])
            simp [nmL, s1, s2, hns, hms]
          · show 1 ≤ (flat a ++ (flat b ++ [p])).length
            simp only [List.length_append]; simp; omega
theorem foldE_names {e : Ex} (h : well e) : namesP (flat (foldE e)) = namesP (flat e) := by
  rw [names_nm, names_nm, (foldE_nm h).2.1]
/-- folded anew it stays -/
theorem foldE_twice : ∀ e : Ex, foldE (foldE e) = foldE e
  | .leaf p => rfl
  | .one p a => by
    have ih := foldE_twice a
    rw [foldE]
    cases hn : numOf (foldE a) with
    | none =>
      show foldE (.one p (foldE a)) = _
      rw [foldE, ih, hn]
    | some n =>
      cases hr : reckP p [n] with
      | none =>
        simp only [hr]
        rw [foldE, ih, hn]
        simp only [hr]
      | some q => simp only [hr]; rfl
  | .two p a b => by
    have ih := foldE_twice a
    have jh := foldE_twice b
    rw [foldE]
    cases hn : numOf (foldE a) with
    | none =>
      show foldE (.two p (foldE a) (foldE b)) = _
      rw [foldE, ih, jh, hn]
    | some n =>
      cases hm : numOf (foldE b) with
      | none =>
        show foldE (.two p (foldE a) (foldE b)) = _
        rw [foldE, ih, jh, hn, hm]
      | some m =>
        cases hr : reckP p [n, m] with
        | none =>
          simp only [hr]
          rw [foldE, ih, jh, hn, hm]
          simp only [hr]
        | some q => simp only [hr]; rfl
end Go.Proofs.YtldjiieckddhkaaGreatDoor
