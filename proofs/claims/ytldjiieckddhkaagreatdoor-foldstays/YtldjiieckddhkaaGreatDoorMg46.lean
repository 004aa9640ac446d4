/- A slice of variables among the arguments, opened. | FoldNames and FoldStays, plain: what is resolved and what is folded has the same names; it is not longer; resolved or folded anew it stays. | FoldNames and FoldStays, plain: what is resolved or folded may be, fits its type, and is resolved and folded as it is. -/
import Derived.Test.YtldjiieckddhkaaGreatDoorMg45
import Derived.Test.YtldjiieckddhkaaGreatDoorMg17
import Derived.Test.YtldjiieckddhkaaGreatDoorMg32
import Derived.Test.YtldjiieckddhkaaGreatDoorMg16
import Derived.Test.YtldjiieckddhkaaGreatDoorMg13
namespace Go.Proofs.YtldjiieckddhkaaGreatDoor
open Go.ChangeShapes Go.WideShapes Go.ChangeAt Go.RowKit
theorem cells50 : Tryz.prog.cellsOf 50 = 5 := by kernel_rfl
theorem bytes50 : Tryz.prog.bytesOf 50 = 48 := by kernel_rfl
/-- a variable's data -/
def vvD {H : Type} (y : Vv) : DataW H := .agg [.lit (.string y.s.data.toList), .lit (.int .i64 y.ty), .lit (.int .i64 y.len), .lit (.int .i64 y.init), .lit (.int .i64 y.dir)]
theorem open_vars {H : Type} {enc : TypeId × Value → H} {W : World} {fuel len cap : Nat} {a : Option Addr} {x : DataW H × List MemPlace} {cs : List Value} (h : DataW.trod enc Tryz.prog W 0 (fun _ => true) true fuel 22 cs = some x) (hcs0 : cs = [.slice a len cap]) :
    ∃ l : List Vv, l.length = len ∧ len ≤ cap ∧ VLst W (.slice a len cap) l ∧ ((x.1 = .nil ∧ len = 0) ∨ ∃ el sp, x.1 = .slice el sp ∧ el = l.map vvD) := by
  subst hcs0
  rcases Deep.open_slice Tryz.underlying22 h with ⟨hcs, rfl⟩ | ⟨a', len', cap', m, n, D, Pl, hcs, hb, hl, hm, hmm, rfl, hx⟩
  · simp at hcs
    obtain ⟨rfl, rfl, rfl⟩ := hcs
    exact ⟨[], rfl, Nat.le_refl _, ⟨none, 0, 0, 0, rfl, fun h => absurd h (Nat.lt_irrefl 0), fun i x hx => (by cases hx)⟩, .inl ⟨rfl, rfl⟩⟩
  · simp at hcs
    obtain ⟨rfl, rfl, rfl⟩ := hcs
    simp only [if_true] at hmm
    subst hmm
    rw [cells50] at hx
    have each : ∀ i, i < len → ∃ y : Vv, W.cell? (a'.add (i * 5)) = some (.string y.s) ∧ W.cell? (a'.add (i * 5 + 1)) = some (.int .i64 y.ty) ∧ W.cell? (a'.add (i * 5 + 2)) = some (.int .i64 y.len) ∧ W.cell? (a'.add (i * 5 + 3)) = some (.int .i64 y.init) ∧ W.cell? (a'.add (i * 5 + 4)) = some (.int .i64 y.dir) ∧ D i = vvD y := fun i hi => by
      obtain ⟨cs', h1, h2⟩ := hx i (by omega)
      obtain ⟨_, hlen, hcell⟩ := World.cells?_some h1
      obtain ⟨xs, k, hk, hxy, _, hxl, hf⟩ := DataW.trod_struct Tryz.underlying50 h2
      obtain ⟨v0, v1, v2, v3, v4, rfl⟩ := five hlen
      obtain ⟨y0, y1, y2, y3, y4, rfl⟩ := five hxl
      have g0 := hf 0 _ rfl
      have g1 := hf 1 _ rfl
      have g2 := hf 2 _ rfl
      have g3 := hf 3 _ rfl
      have g4 := hf 4 _ rfl
      have g0' : DataW.trod enc Tryz.prog W 0 (fun _ => true) true k 9 [v0] = some y0 := by simpa [cells9] using g0
      have g1' : DataW.trod enc Tryz.prog W 0 (fun _ => true) true k 3 [v1] = some y1 := by simpa [cells3] using g1
      have g2' : DataW.trod enc Tryz.prog W 0 (fun _ => true) true k 3 [v2] = some y2 := by simpa [cells3] using g2
      have g3' : DataW.trod enc Tryz.prog W 0 (fun _ => true) true k 2 [v3] = some y3 := by simpa [cells2] using g3
      have g4' : DataW.trod enc Tryz.prog W 0 (fun _ => true) true k 3 [v4] = some y4 := by simpa [cells3] using g4
      obtain ⟨z0, e0, E0, _⟩ := DataW.trod_string Tryz.underlying9 g0'
      obtain ⟨z1, e1, E1, _⟩ := DataW.trod_int Tryz.underlying3 g1'
      obtain ⟨z2, e2, E2, _⟩ := DataW.trod_int Tryz.underlying3 g2'
      obtain ⟨z3, e3, E3, _⟩ := DataW.trod_int Tryz.underlying2 g3'
      obtain ⟨z4, e4, E4, _⟩ := DataW.trod_int Tryz.underlying3 g4'
      have d0 := hcell 0 (by omega)
      have d1 := hcell 1 (by omega)
      have d2 := hcell 2 (by omega)
      have d3 := hcell 3 (by omega)
      have d4 := hcell 4 (by omega)
      rw [Deep.add_add] at d0 d1 d2 d3 d4
      injection e0 with e0
      injection e1 with e1
      injection e2 with e2
      injection e3 with e3
      injection e4 with e4
      subst e0 e1 e2 e3 e4
      refine ⟨⟨z0, z1, z2, z3, z4⟩, d0, d1, d2, d3, d4, ?_⟩
      have hd := congrArg Prod.fst hxy
      simp only [List.map_cons, List.map_nil] at hd
      rw [hd, E0, E1, E2, E3, E4]
      rfl
    obtain ⟨f, hf⟩ := @Deep.choose_lt Vv ⟨⟨⟨#[]⟩, 0, 0, 0, 0⟩⟩ _ _ each
    refine ⟨(List.range len).map f, by simp, hl, ?_, .inr ⟨_, _, rfl, ?_⟩⟩
    · by_cases hl0 : len = 0
      · subst hl0
        exact ⟨some a', 0, 0, m, rfl, fun h => absurd h (Nat.lt_irrefl 0), fun i x hx => by cases hx⟩
      · obtain ⟨b, off, spot⟩ := a'
        have hspot : spot = none := by simpa [Addr.add] using World.cell?_spot (hf 0 (by omega)).1
        subst hspot
        have hbW : b < W.heap.size := World.block_lt_of_cell? W _ (by have := (hf 0 (by omega)).1; rwa [Addr.add_mid] at this)
        refine ⟨some ⟨b, off, none⟩, b, off, m, by simp, fun _ => ⟨hbW, rfl⟩, fun i y hy => ?_⟩
        have hi : i < len := by have := (List.getElem?_eq_some_iff.1 hy).1; simpa using this
        have hfy : f i = y := by simpa [hi] using hy
        obtain ⟨q0, q1, q2, q3, q4, _⟩ := hf i hi
        rw [Addr.add_mid] at q0 q1 q2 q3 q4
        rw [hfy] at q0 q1 q2 q3 q4
        exact ⟨q0, by rw [Nat.add_assoc]; exact q1, by rw [Nat.add_assoc]; exact q2, by rw [Nat.add_assoc]; exact q3, by rw [Nat.add_assoc]; exact q4⟩
    · rw [List.map_map]
      exact List.map_congr_left fun i hi => (hf i (List.mem_range.1 hi)).2.2.2.2.2
theorem lenV_of {H : Type} {ts : List TypeId} {ds : List (DataW H)} {j : Nat} {l : List Vv} {el sp : List (DataW H)} (hsz : (DataW.weightsEach Tryz.prog ts ds).all (· ≤ reachBytes) = true) (ht : ts[j]? = some 22) (hd : ds[j]? = some (.slice el sp)) (he : el = l.map vvD) : l.length * 48 ≤ 140737488351232 := by
  have hr : reachBytes = 140737488351232 := by decide
  have h := sized_slice hsz ht hd Tryz.underlying22
  rw [bytes50, he, List.length_map, hr] at h
  omega
end Go.Proofs.YtldjiieckddhkaaGreatDoor
namespace Go.Proofs.YtldjiieckddhkaaGreatDoor
/-- the names of parts, in their order -/
def nmL (x : List Pt) : List Bs := (x.map Pt.s).filter (fun s => decide (s ≠ []))
theorem nmL_app (a b : List Pt) : nmL (a ++ b) = nmL a ++ nmL b := by unfold nmL; rw [List.map_append, List.filter_append]
theorem fold_nm : ∀ (x : List Pt) (out : List Bs), x.foldl (fun out p => if p.s = [] then out else insN out p.s) out = (nmL x).foldl insN out
  | [], _ => rfl
  | p :: x, out => by
    have e : nmL (p :: x) = nmL [p] ++ nmL x := nmL_app [p] x
    rw [List.foldl_cons, fold_nm x, e, List.foldl_append]
    by_cases h : p.s = []
    · rw [if_pos h]
      have : nmL [p] = [] := by simp [nmL, h]
      rw [this]; rfl
    · rw [if_neg h]
      have : nmL [p] = [p.s] := by simp [nmL, h]
      rw [this]; rfl
theorem names_nm (x : List Pt) : namesP x = (nmL x).foldl insN [] := fold_nm x []
theorem give1_s (t : Int) (p : Pt) : (give1 t p).s = p.s := by
  unfold give1
  split <;> rfl
theorem giveT_nm (t : Int) : ∀ e : Ex, nmL (flat (giveT t e)) = nmL (flat e)
  | .leaf p => by
    show nmL [give1 t p] = nmL [p]
    unfold nmL
    rw [List.map_singleton, List.map_singleton, give1_s]
  | .one p e => by
    show nmL (flat (giveT t e) ++ [p]) = nmL (flat e ++ [p])
    rw [nmL_app, nmL_app, giveT_nm t e]
  | .two p a b => by
    show nmL (flat (giveT t a) ++ (flat (giveT t b) ++ [p])) = nmL (flat a ++ (flat b ++ [p]))
    rw [nmL_app, nmL_app, nmL_app, nmL_app, giveT_nm t a, giveT_nm t b]
theorem giveT_len (t : Int) : ∀ e : Ex, (flat (giveT t e)).length = (flat e).length
  | .leaf p => rfl
  | .one p e => by
    show (flat (giveT t e) ++ [p]).length = (flat e ++ [p]).length
    rw [List.length_append, List.length_append, giveT_len t e]
  | .two p a b => by
    show (flat (giveT t a) ++ (flat (giveT t b) ++ [p])).length = (flat a ++ (flat b ++ [p])).length
    simp only [List.length_append, giveT_len t a, giveT_len t b]
theorem resE_nm (vs : List Vr) : ∀ e : Ex, nmL (flat (resE vs e)) = nmL (flat e)
  | .leaf p => rfl
  | .one p a => by
    show nmL (flat (if _ then giveT _ (resE vs a) else resE vs a) ++ [p]) = nmL (flat a ++ [p])
    rw [nmL_app, nmL_app]
    congr 1
    split
    · rw [giveT_nm, resE_nm vs a]
    · exact resE_nm vs a
  | .two p a b => by
    show nmL (flat (if _ then giveT _ (resE vs a) else resE vs a) ++ (flat (if _ then giveT _ (resE vs b) else resE vs b) ++ [p])) = nmL (flat a ++ (flat b ++ [p]))
    rw [nmL_app, nmL_app, nmL_app, nmL_app]
    congr 1
    · split
      · rw [giveT_nm, resE_nm vs a]
      · exact resE_nm vs a
    · congr 1
      split
      · rw [giveT_nm, resE_nm vs b]
      · exact resE_nm vs b
theorem resE_len (vs : List Vr) : ∀ e : Ex, (flat (resE vs e)).length = (flat e).length
  | .leaf p => rfl
  | .one p a => by
    show (flat (if _ then giveT _ (resE vs a) else resE vs a) ++ [p]).length = (flat a ++ [p]).length
    rw [List.length_append, List.length_append]
    congr 1
    split
    · rw [giveT_len, resE_len vs a]
    · exact resE_len vs a
  | .two p a b => by
    show (flat (if _ then giveT _ (resE vs a) else resE vs a) ++ (flat (if _ then giveT _ (resE vs b) else resE vs b) ++ [p])).length = (flat a ++ (flat b ++ [p])).length
    simp only [List.length_append]
    congr 1
    · split
      · rw [giveT_len, resE_len vs a]
      · exact resE_len vs a
    · congr 1
      split
      · rw [giveT_len, resE_len vs b]
      · exact resE_len vs b
/-- what is resolved has the same names, and as many parts -/
theorem endE_nm (vs : List Vr) (e : Ex) (t : Int) : namesP (flat (endE vs e t)) = namesP (flat e) := by
  rw [names_nm, names_nm]
  congr 1
  unfold endE kid
  split
  · rw [giveT_nm, resE_nm]
  · exact resE_nm vs e
theorem endE_len (vs : List Vr) (e : Ex) (t : Int) : (flat (endE vs e t)).length = (flat e).length := by
  unfold endE kid
  split
  · rw [giveT_len, resE_len]
  · exact resE_len vs e
theorem reck_s {p q : Pt} {on : List Pt} (hm : mayP p = true) (h : reckP p on = some q) : p.s = [] ∧ q.s = [] ∧ q.kind = 1 := by
  have hk : p.kind = 5 ∨ p.kind = 6 := by
    rcases reck_form h with ⟨h1, -⟩ | ⟨h1, -⟩
    · exact .inr h1
    · exact .inl h1
  have hq : q.s = [] ∧ q.kind = 1 := by
    rcases reck_form h with ⟨-, a, r, -, -, rfl⟩ | ⟨-, h2⟩
    · exact ⟨rfl, rfl⟩
    · rcases h2 with ⟨a, -, -, rfl⟩ | ⟨a, b, r, -, -, rfl⟩
      · exact ⟨rfl, rfl⟩
      · exact ⟨rfl, rfl⟩
  refine ⟨?_, hq⟩
  unfold mayP at hm
  rcases hk with hk | hk <;> rw [hk] at hm <;> simp at hm
  · exact hm.1
  · exact hm.1
theorem num_s {p : Pt} (hk : p.kind = 1) (hm : mayP p = true) : p.s = [] := (mayp_num hk hm).1
/-- numbers within what is folded have no name; its names are the same; it is not longer -/
theorem foldE_nm : ∀ {e : Ex}, well e → InT (fun p => p.s = []) (foldE e) ∧ nmL (flat (foldE e)) = nmL (flat e) ∧ (flat (foldE e)).length ≤ (flat e).length
  | .leaf p, h => ⟨fun hk => num_s hk h.2, rfl, Nat.le_refl _⟩
  | .one p a, h => by
    obtain ⟨i1, i2, i3⟩ := foldE_nm h.2.2
    have keep : InT (fun p => p.s = []) (.one p (foldE a)) ∧ nmL (flat (.one p (foldE a))) = nmL (flat (.one p a)) ∧ (flat (.one p (foldE a))).length ≤ (flat (.one p a)).length := by
      refine ⟨i1, ?_, ?_⟩
      · show nmL (flat (foldE a) ++ [p]) = nmL (flat a ++ [p])
        rw [nmL_app, nmL_app, i2]
      · show (flat (foldE a) ++ [p]).length ≤ (flat a ++ [p]).length
        rw [List.length_append, List.length_append]; omega
    rw [foldE]
    cases hn : numOf (foldE a) with
    | none => exact keep
    | some n =>
      cases hr : reckP p [n] with
      | none => simp only [hr]; exact keep
      | some q =>
        simp only [hr]
        obtain ⟨s1, s2, s3⟩ := reck_s h.2.1 hr
        obtain ⟨e1, e2⟩ := num_of hn
        rw [e1] at i1 i2
        have hns : n.s = [] := i1 e2
        refine ⟨fun _ => s2, ?_, ?_⟩
        · show nmL [q] = nmL (flat a ++ [p])
          rw [nmL_app, ← i2]
          show nmL [q] = nmL [n] ++ nmL [p]
          simp [nmL, s1, s2, hns]
        · show 1 ≤ (flat a ++ [p]).length
          rw [List.length_append]; simp
  | .two p a b, h => by
    obtain ⟨i1, i2, i3⟩ := foldE_nm h.2.2.1
    obtain ⟨j1, j2, j3⟩ := foldE_nm h.2.2.2
    have keep : InT (fun p => p.s = []) (.two p (foldE a) (foldE b)) ∧ nmL (flat (.two p (foldE a) (foldE b))) = nmL (flat (.two p a b)) ∧ (flat (.two p (foldE a) (foldE b))).length ≤ (flat (.two p a b)).length := by
      refine ⟨⟨i1, j1⟩, ?_, ?_⟩
      · show nmL (flat (foldE a) ++ (flat (foldE b) ++ [p])) = nmL (flat a ++ (flat b ++ [p]))
        rw [nmL_app, nmL_app, nmL_app, nmL_app, i2, j2]
      · show (flat (foldE a) ++ (flat (foldE b) ++ [p])).length ≤ (flat a ++ (flat b ++ [p])).length
        simp only [List.length_append]; omega
    rw [foldE]
    cases hn : numOf (foldE a) with
    | none => exact keep
    | some n =>
      cases hm : numOf (foldE b) with
      | none => exact keep
      | some m =>
        cases hr : reckP p [n, m] with
        | none => simp only [hr]; exact keep
        | some q =>
          simp only [hr]
          obtain ⟨s1, s2, s3⟩ := reck_s h.2.1 hr
          obtain ⟨e1, e2⟩ := num_of hn
          obtain ⟨f1, f2⟩ := num_of hm
          rw [e1] at i1 i2
          rw [f1] at j1 j2
          have hns : n.s = [] := i1 e2
          have hms : m.s = [] := j1 f2
          refine ⟨fun _ => s2, ?_, ?_⟩
          · show nmL [q] = nmL (flat a ++ (flat b ++ [p]))
            rw [nmL_app, nmL_app, ← i2, ← j2]
            show nmL [q] = nmL [n] ++ (nmL [m] ++ nmL [p])
            simp [nmL, s1, s2, hns, hms]
          · show 1 ≤ (flat a ++ (flat b ++ [p])).length
            simp only [List.length_append]; simp; omega
theorem foldE_names {e : Ex} (h : well e) : namesP (flat (foldE e)) = namesP (flat e) := by
  rw [names_nm, names_nm, (foldE_nm h).2.1]
/-- folded anew it stays -/
theorem foldE_twice : ∀ e : Ex, foldE (foldE e) = foldE e
  | .leaf p => rfl
  | .one p a => by
    have ih := foldE_twice a
    rw [foldE]
    cases hn : numOf (foldE a) with
    | none =>
      show foldE (.one p (foldE a)) = _
      rw [foldE, ih, hn]
    | some n =>
      cases hr : reckP p [n] with
      | none =>
        simp only [hr]
        rw [foldE, ih, hn]
        simp only [hr]
      | some q => simp only [hr]; rfl
  | .two p a b => by
    have ih := foldE_twice a
    have jh := foldE_twice b
    rw [foldE]
    cases hn : numOf (foldE a) with
    | none =>
      show foldE (.two p (foldE a) (foldE b)) = _
      rw [foldE, ih, jh, hn]
    | some n =>
      cases hm : numOf (foldE b) with
      | none =>
        show foldE (.two p (foldE a) (foldE b)) = _
        rw [foldE, ih, jh, hn, hm]
      | some m =>
        cases hr : reckP p [n, m] with
        | none =>
          simp only [hr]
          rw [foldE, ih, jh, hn, hm]
          simp only [hr]
        | some q => simp only [hr]; rfl
end Go.Proofs.YtldjiieckddhkaaGreatDoor
namespace Go.Proofs.YtldjiieckddhkaaGreatDoor
theorem depths_flat : ∀ {e : Ex}, well e → ∀ (x : List Pt) (st : List Nat), depths (flat e ++ x) st = depths x (dep e :: st)
  | .leaf p, hw, x, st => by
    show depths (p :: x) st = _
    conv => lhs; unfold depths
    rw [if_pos hw.1]; rfl
  | .one p e, hw, x, st => by
    show depths ((flat e ++ [p]) ++ x) st = _
    rw [List.append_assoc, depths_flat hw.2.2]
    show depths (p :: x) (dep e :: st) = _
    conv => lhs; unfold depths
    rw [if_neg (by rw [hw.1]; decide), if_pos hw.1]; rfl
  | .two p a b, hw, x, st => by
    show depths ((flat a ++ (flat b ++ [p])) ++ x) st = _
    rw [List.append_assoc, depths_flat hw.2.2.1, List.append_assoc, depths_flat hw.2.2.2]
    show depths (p :: x) (dep b :: dep a :: st) = _
    conv => lhs; unfold depths
    rw [if_neg (by rw [hw.1]; decide), if_neg (by rw [hw.1]; decide)]; rfl
theorem may_flat : ∀ {e : Ex}, well e → ∀ p ∈ flat e, mayP p = true
  | .leaf p, hw, q, hq => by rw [flat, List.mem_singleton] at hq; rw [hq]; exact hw.2
  | .one p e, hw, q, hq => by
    rw [flat, List.mem_append, List.mem_singleton] at hq
    rcases hq with hq | rfl
    · exact may_flat (e := e) hw.2.2 q hq
    · exact hw.2.1
  | .two p a b, hw, q, hq => by
    rw [flat, List.mem_append, List.mem_append, List.mem_singleton] at hq
    rcases hq with hq | hq | rfl
    · exact may_flat (e := a) hw.2.2.1 q hq
    · exact may_flat (e := b) hw.2.2.2 q hq
    · exact hw.2.1
/-- a tree that is neither too long nor too deep may be -/
theorem check_flat {e : Ex} (hw : well e) (hd : dep e ≤ 24) (hl : (flat e).length ≤ 500) : checkP (flat e) = 0 := by
  have h := depths_flat hw [] []
  rw [List.append_nil] at h
  refine check_good (ds := [dep e]) (by omega) (fun i p hi => may_flat hw p (List.mem_of_getElem? hi)) ?_ rfl ?_
  · rw [h]; rfl
  · intro d hd'
    rw [List.mem_singleton.1 hd']
    exact ⟨dep_pos e, hd⟩
/-- numbers with types alone: no number of no type is left -/
theorem not_bare : ∀ {e : Ex}, Bare e → ¬ InT (fun p => p.t ≠ 0) e
  | .leaf _, hb, hi => hi hb.1 hb.2
  | .one _ e, hb, hi => not_bare (e := e) hb.2.2 hi
  | .two _ a _, hb, hi => not_bare (e := a) hb.2.2.1 hi.1
theorem typed_ne {vs : List Vr} (hv : vOk vs) {e : Ex} {k : Kd} (hw : well e) (h : evT (partK vs) e = .ok k) (hi : InT (fun p => p.t ≠ 0) e) : k.typ ≠ 0 := fun h0 => not_bare (bare hv hw h h0).1 hi
/-- resolved anew it stays -/
theorem resE_twice {vs : List Vr} (hv : vOk vs) : ∀ {r : Ex} {k : Kd}, well r → evT (partK vs) r = .ok k → InT (fun p => p.t ≠ 0) r → resE vs r = r
  | .leaf p, _, _, _, _ => rfl
  | .one p a, k, hw, h, hi => by
    obtain ⟨u, hu, -⟩ := ev1_inv h
    have h0 := typed_ne hv hw.2.2 hu hi
    rw [resE, kt_ok hu, if_neg h0, resE_twice hv hw.2.2 hu hi]
  | .two p a b, k, hw, h, hi => by
    obtain ⟨u, u', hu, hu', -⟩ := ev2_inv h
    have h0 := typed_ne hv hw.2.2.1 hu hi.1
    have h1 := typed_ne hv hw.2.2.2 hu' hi.2
    rw [resE, kt_ok hu, kt_ok hu', if_neg h0, if_neg h1, resE_twice hv hw.2.2.1 hu hi.1, resE_twice hv hw.2.2.2 hu' hi.2]
theorem endE_twice {vs : List Vr} (hv : vOk vs) {r : Ex} {t : Int} (hw : well r) (h : evT (partK vs) r = .ok (kT t)) (hi : InT (fun p => p.t ≠ 0) r) : endE vs r t = r := by
  have h0 : (kT t).typ ≠ 0 := typed_ne hv hw h hi
  unfold endE kid
  rw [kt_ok h, if_neg h0, resE_twice hv hw h hi]
/-- a tree of the type that is asked for fits it -/
theorem fits_anew {vs : List Vr} (hm : mayV vs = 0) (hv : vOk vs) {r : Ex} {t : Int} (hw : well r) (h : evT (partK vs) r = .ok (kT t)) (hi : InT (fun p => p.t ≠ 0) r) (hd : dep r ≤ 24) (hl : (flat r).length ≤ 500) :
    fitsP vs (flat r) t = 0 ∧ resP vs (flat r) t = flat r := by
  have h0 : (kT t).typ ≠ 0 := typed_ne hv hw h hi
  have hf : kFits (kT t) t = 0 := kFits_same (show t ≠ 0 from h0)
  refine ⟨?_, ?_⟩
  · unfold fitsP askP
    rw [if_neg (fun h => h hm), if_neg (fun h => h (check_flat hw hd hl))]
    unfold kindP
    rw [run_tree _ hw, h]
    show (match (if (kT t).typ = 0 ∧ kFits (kT t) 3 ≠ 0 then (Except.error 1 : Except Int Kd) else .ok (kT t)) with | .error e => e | .ok k => kFits k t) = 0
    rw [if_neg (fun h => h0 h.1)]
    exact hf
  · rw [(res_tree hv hw h hf).2, endE_twice hv hw h hi]
/-- the numbers of a tree that may be have values that their types hold -/
theorem num_fits {r : Ex} (hw : well r) (hi : InT (fun p => p.t ≠ 0) r) : ∀ p ∈ flat r, p.kind = 1 → fit6 p.t p.n = true := fun p hp hk => by
  rcases (mayp_num hk (may_flat hw p hp)).2.2 with h | h
  · exact absurd h (flat_in hw hi p hp hk)
  · exact h
/-- what FoldNames and FoldStays say of lists that fit: a what is resolved, b what is folded -/
structure StayQ (vs : List Vr) (x a b : List Pt) (t : Int) : Prop where
  len_a : a.length = x.length
  len_b : b.length ≤ x.length
  fit_a : fitsP vs a t = 0
  fit_b : fitsP vs b t = 0
  res_a : resP vs a t = a
  res_b : resP vs b t = b
  fold_a : foldP a = b
  fold_b : foldP b = b
  num_a : ∀ p ∈ a, p.kind = 1 → fit6 p.t p.n = true
  num_b : ∀ p ∈ b, p.kind = 1 → fit6 p.t p.n = true
  chk_x : checkP x = 0
  chk_a : checkP a = 0
  chk_b : checkP b = 0
  nm_a : nmL a = nmL x
  nm_b : nmL b = nmL x
  ty_a : ∃ e, well e ∧ flat e = a ∧ evT (partK vs) e = .ok (kT t)
  ty_b : ∃ e, well e ∧ flat e = b ∧ evT (partK vs) e = .ok (kT t)
  ty : t ≠ 0
theorem endE_nm' (vs : List Vr) (e : Ex) (t : Int) : nmL (flat (endE vs e t)) = nmL (flat e) := by
  unfold endE kid
  split
  · rw [giveT_nm, resE_nm]
  · exact resE_nm vs e
theorem stay {vs : List Vr} (hm : mayV vs = 0) (hv : vOk vs) {e : Ex} {k : Kd} {t : Int} (hw : well e) (hd : dep e ≤ 24) (hl : (flat e).length ≤ 500) (hk : evT (partK vs) e = .ok k) (hf : kFits k t = 0) :
    StayQ vs (flat e) (resP vs (flat e) t) (foldP (resP vs (flat e) t)) t := by
  obtain ⟨r, er⟩ := res_tree hv hw hk hf
  have f := fold_kind hv r.wel r.kind r.typed
  have hla : (flat (endE vs e t)).length = (flat e).length := endE_len vs e t
  have hlb := (foldE_nm r.wel).2.2
  have hda : dep (endE vs e t) ≤ 24 := by rw [r.deps]; exact hd
  have hdb : dep (foldE (endE vs e t)) ≤ 24 := Nat.le_trans f.deps hda
  have ha := fits_anew hm hv r.wel r.kind r.typed hda (by omega)
  have hb := fits_anew hm hv f.wel f.kind f.typed hdb (by omega)
  rw [er, foldP_flat r.wel]
  exact {
    len_a := hla
    len_b := by omega
    fit_a := ha.1
    fit_b := hb.1
    res_a := ha.2
    res_b := hb.2
    fold_a := foldP_flat r.wel
    fold_b := by rw [foldP_flat f.wel, foldE_twice]
    num_a := num_fits r.wel r.typed
    num_b := num_fits f.wel f.typed
    chk_x := check_flat hw hd hl
    chk_a := check_flat r.wel hda (by omega)
    chk_b := check_flat f.wel hdb (by omega)
    nm_a := endE_nm' vs e t
    nm_b := by rw [(foldE_nm r.wel).2.1, endE_nm']
    ty_a := ⟨_, r.wel, rfl, r.kind⟩
    ty_b := ⟨_, f.wel, rfl, f.kind⟩
    ty := show (kT t).typ ≠ 0 from typed_ne hv r.wel r.kind r.typed }
end Go.Proofs.YtldjiieckddhkaaGreatDoor
