/- RsL | RsK -/
import Derived.Test.YtldjiieckddhkaaGreatDoorMg28
namespace Go.Proofs.YtldjiieckddhkaaGreatDoor
theorem lay_at : ∀ {s : Nat} {st : List Vl} {sp : List Sp} {e : Nat}, Lay s st sp e → ∀ (i : Nat) (v : Vl) (a : Sp), st[i]? = some v → sp[i]? = some a → a.1 = s + ((st.take i).map (·.ps)).flatten.length ∧ a.2 + 1 = a.1 + v.ps.length
  | _, [], [], _, _, i, v, a, h, _ => by cases h
  | s, u :: st, b :: sp, e, ⟨h1, h2, h3⟩, 0, v, a, hv, ha => by
    obtain rfl := Option.some.inj (show some b = some a from ha)
    obtain rfl := Option.some.inj (show some u = some v from hv)
    refine ⟨by rw [h1]; rfl, by rw [h1]; exact h2⟩
  | s, u :: st, b :: sp, e, ⟨h1, h2, h3⟩, i + 1, v, a, hv, ha => by
    obtain ⟨k1, k2⟩ := lay_at h3 i v a hv ha
    refine ⟨?_, k2⟩
    rw [k1, List.take_succ_cons, List.map_cons, List.flatten_cons, List.length_append]; omega
  | _, [], _ :: _, _, h, _, _, _, _, _ => h.elim
  | _, _ :: _, [], _, h, _, _, _, _, _ => h.elim
def oJ (st : List Vl) (x : List Pt) (k : Nat) (p : Pt) (made : Int) (j : Nat) : List Pt :=
  ((st.take (st.length - takes p)).map (·.ps)).flatten ++ ((((st.drop (st.length - takes p)).take j).map (resV p ((st.drop (st.length - takes p)).map (·.k.typ)) made)).flatten ++ ((((st.drop (st.length - takes p)).drop j).map (·.ps)).flatten ++ x.drop k))
theorem oJ_zero (st : List Vl) (x : List Pt) (k : Nat) (p : Pt) (made : Int) : oJ st x k p made 0 = outK st x k := by
  unfold oJ outK
  rw [List.take_zero, List.drop_zero, List.map_nil, List.flatten_nil, List.nil_append, ← List.append_assoc, ← List.flatten_append, ← List.map_append, List.take_append_drop]
theorem oJ_end {vs : List Vr} {st : List Vl} {x : List Pt} {k : Nat} {p : Pt} {v' : Vl} {j : Nat} (hp : x[k]? = some p) (hr : partR vs p (st.drop (st.length - takes p)) = .ok v') (hj : (st.drop (st.length - takes p)).length ≤ j) :
    oJ st x k p v'.k.typ j = outK (st.take (st.length - takes p) ++ [v']) x (k + 1) := by
  rw [outK_next hp hr]
  unfold oJ
  rw [List.take_of_length_le hj, List.drop_eq_nil_of_le hj]
  rfl
theorem oJ_at {vs : List Vr} {st : List Vl} {x : List Pt} {k : Nat} {p : Pt} {made : Int} {j : Nat} {v : Vl} {a : Sp} (h : RsS vs x k st) (hv : (st.drop (st.length - takes p))[j]? = some v) (ha : ((spAt x k).drop ((spAt x k).length - takes p))[j]? = some a) :
    ∃ A B, oJ st x k p made j = A ++ (v.ps ++ B) ∧ oJ st x k p made (j + 1) = A ++ (resV p ((st.drop (st.length - takes p)).map (·.k.typ)) made v ++ B) ∧ A.length = a.1 ∧ a.2 + 1 = a.1 + v.ps.length := by
  have hl := h.lay.len
  rw [List.getElem?_drop] at hv ha
  rw [← hl] at ha
  obtain ⟨k1, k2⟩ := lay_at h.lay _ v a hv ha
  have hv' : (st.drop (st.length - takes p))[j]? = some v := by rw [List.getElem?_drop]; exact hv
  obtain ⟨hj, hvj⟩ := List.getElem?_eq_some_iff.1 hv'
  refine ⟨((st.take (st.length - takes p)).map (·.ps)).flatten ++ (((st.drop (st.length - takes p)).take j).map (resV p ((st.drop (st.length - takes p)).map (·.k.typ)) made)).flatten, (((st.drop (st.length - takes p)).drop (j + 1)).map (·.ps)).flatten ++ x.drop k, ?_, ?_, ?_, k2⟩
  · unfold oJ
    rw [List.drop_eq_getElem_cons hj, hvj, List.map_cons, List.flatten_cons]
    simp only [List.append_assoc]
  · unfold oJ
    rw [List.take_succ_eq_append_getElem hj, hvj, List.map_append, List.flatten_append]
    simp
  · rw [List.length_append, resV_flat, k1, Nat.zero_add, List.take_add, List.map_append, List.flatten_append, List.length_append]
theorem map_split {o : List Pv} {A v B : List Pt} (h : o.map ptV = A ++ (v ++ B)) : ∃ oA oM oB, o = oA ++ (oM ++ oB) ∧ oA.map ptV = A ∧ oM.map ptV = v ∧ oB.map ptV = B := by
  obtain ⟨oA, o2, rfl, h1, h2⟩ := List.map_eq_append_iff.1 h
  obtain ⟨oM, oB, rfl, h3, h4⟩ := List.map_eq_append_iff.1 h2
  exact ⟨oA, oM, oB, rfl, h1, h3, h4⟩
theorem pvsC_app3 (a b c : List Pv) : pvsC (a ++ (b ++ c)) = pvsC a ++ (pvsC b ++ pvsC c) := by rw [pvsC_append, pvsC_append]
end Go.Proofs.YtldjiieckddhkaaGreatDoor
namespace Go.Proofs.YtldjiieckddhkaaGreatDoor
open Go.RowKit Go.Shelf
set_option maxRecDepth 100000 in
theorem cut_parts (g N c a m : Nat) (h1 : a < m) (h2 : m ≤ N) (h3 : N ≤ c) (W : World) : (Instr.slice 23 (.slice (some ⟨g, 0, none⟩) N c) (some (.int .i64 (a : Int))) (some (.int .i64 (m : Int))) none).run Tryz.prog W = .ok (.slice (some ⟨g, a * 5, none⟩) (m - a) (c - a)) W := by
  have i0 : (0 : Int) ≤ (a : Int) := by omega
  have i1 : (a : Int) ≤ (m : Int) := by omega
  have i2 : (m : Int) ≤ (c : Int) := by omega
  have i3 : ¬ c = a := by omega
  have i4 : (0 : Int) ≤ (m : Int) := by omega
  simp [go_sem, *]
theorem ilst_own {w : World} {base : Nat} {v : Value} {l : List Int} (h : w.ownsRow base 3 1 v l.length (tyC l)) : ILst w v l := by
  rcases h.2 with ⟨hv, h0⟩ | ⟨g, cap, cur, hv, hb, hg, hn, hm, hc, ht⟩
  · obtain rfl := List.eq_nil_of_length_eq_zero h0
    subst hv
    exact ⟨none, 0, 0, rfl, fun h => absurd h (Nat.lt_irrefl 0), fun i t hi => by cases hi⟩
  · subst hv
    refine ⟨_, g, cap, rfl, fun _ => ⟨(Array.getElem?_eq_some_iff.1 hg).1, rfl⟩, fun i t hi => ?_⟩
    have hlt : i < l.length := (List.getElem?_eq_some_iff.1 hi).1
    rw [h.cellAt i (by omega), tyC_get, hi]; rfl
theorem plst_mid {W : World} {g n c : Nat} {A M : List Pv} {rest : List Value} {cs : Array Value} (h : W.heap[g]? = some (.cells cs 38)) (hc : cs.toList = pvsC A ++ (pvsC M ++ rest)) (hn : M.length = n) : PLst W (.slice (some ⟨g, A.length * 5, none⟩) n c) M := by
  subst hn
  refine ⟨_, g, A.length * 5, c, rfl, fun _ => ⟨(Array.getElem?_eq_some_iff.1 h).1, rfl⟩, fun i y hy => ?_⟩
  obtain ⟨hi, hyi⟩ := List.getElem?_eq_some_iff.1 hy
  have key : ∀ j, j < 5 → W.cell? ⟨g, A.length * 5 + i * 5 + j, none⟩ = (pvC y)[j]? := fun j hj => by
    have e : cs[A.length * 5 + i * 5 + j]? = (pvC y)[j]? := by
      rw [← Array.getElem?_toList, hc, List.getElem?_append_right (by rw [pvsC_length]; omega), pvsC_length, show A.length * 5 + i * 5 + j - A.length * 5 = i * 5 + j from by omega, List.getElem?_append_left (by rw [pvsC_length]; omega), pvsC_get M i j hi hj, hyi]
    rw [Lib.cell_of_heap h, e]
  exact ⟨key 0 (by decide), key 1 (by decide), key 2 (by decide), key 3 (by decide), key 4 (by decide)⟩
theorem plst_block {W : World} {g n c : Nat} {o : List Pv} {rest : List Value} {cs : Array Value} (h : W.heap[g]? = some (.cells cs 38)) (hc : cs.toList = pvsC o ++ rest) (hn : o.length = n) : PLst W (.slice (some ⟨g, 0, none⟩) n c) o :=
  plst_mid (A := []) h hc hn
theorem keepX_sub {O O' : List Nat} {a b : World} (h : KeepX O a b) (hs : ∀ k ∈ O, k ∈ O') : KeepX O' a b := ⟨h.os, h.tape, h.output, h.size, fun k hk ho => h.block k hk (fun hO => ho (hs k hO))⟩
theorem RsM.keep {N gO gT : Nat} {o : List Pv} {tys : List Int} {rest : List Value} {A B : World} (h : RsM N gO gT o tys rest A) (hb : Below A.heap.size A B) : RsM N gO gT o tys rest B := by
  obtain ⟨⟨cs, h1, h2⟩, h3, h4, h5⟩ := h
  exact ⟨⟨cs, (hb.block _ (Array.getElem?_eq_some_iff.1 h1).1).trans h1, h2⟩, (hb.block _ (Array.getElem?_eq_some_iff.1 h3).1).trans h3, h4, h5⟩
theorem partR_k {vs : List Vr} {p : Pt} {on : List Vl} {v' : Vl} (h : partR vs p on = .ok v') : partK vs p (on.map (·.k)) = .ok v'.k := by
  unfold partR at h
  cases hk : partK vs p (on.map (·.k)) with
  | error e => rw [hk] at h; cases h
  | ok k => rw [hk] at h; obtain rfl := Except.ok.inj h; rfl
theorem made12 {w W : World} {vv ov : Value} {l : List Vv} {x : List Pv} {y : Pv} {st on : List Vl} {v' : Vl} {ofs : List Int} {k : Nat} {base : Nat} (hV : VLst w vv l) (hvl : l.length ≤ 4398046510976) (hcp : CapOk vv) (hg : Glo w) (hb : Below w.heap.size w W) (hown : W.ownsRow base 3 1 ov ofs.length (tyC ofs))
    (hmv : mayV (l.map vrV) = 0) (hm : ∀ p ∈ x.map ptV, mayP p = true) (hW : Wf (x.map ptV) 0) (hnf : ∀ p ∈ x.map ptV, p.kind = 1 → p.t = 0 → fit6 3 p.n = true) (hS : RsS (l.map vrV) (x.map ptV) k st) (hyp : (x.map ptV)[k]? = some (ptV y)) (hon : on = st.drop (st.length - takes (ptV y))) (hofs : ofs = on.map (·.k.typ))
    (hv' : partR (l.map vrV) (ptV y) (st.drop (st.length - takes (ptV y))) = .ok v') :
    Calls Tryz.prog 43 #[vv, .agg #[.int .i64 y.k, .int .i64 y.n, .int .i64 y.t, .string y.s, .string y.f], ov] W fun e W1 => e = .returned (.int .i64 v'.k.typ) ∧ Below W.heap.size W W1 := by
  have htk := spAt_takes hW hyp
  rw [← hS.lay.len] at htk
  have hlo : on.length = takes (ptV y) := by rw [hon, List.length_drop]; omega
  have hlf : ofs.length ≤ 2 := by rw [hofs, List.length_map, hlo]; exact takes_le _
  refine (typeMade_any vv ov l y ofs W (hV.below hb (Nat.le_refl _)) hvl hcp (ilst_own hown) hlf (hg.below hb hg.lt)).mono ?_
  rintro e W1 ⟨⟨tt, rfl, k', e', rfl, hko⟩, hb1⟩
  refine ⟨?_, hb1⟩
  have hkk := partR_k hv'
  rw [← hon] at hkk
  have hmay : mayP (ptV y) = true := hm _ (List.mem_of_getElem? hyp)
  have hlen : takes (ptV y) = (on.map (·.k)).length := by rw [List.length_map, hlo]
  have hkinds : ∀ k ∈ on.map (·.k), k.typ = 0 ∨ (k = kT k.typ ∧ 1 ≤ k.typ ∧ k.typ ≤ 4) := fun q hq => by
    obtain ⟨u, hu, rfl⟩ := List.mem_map.1 hq
    rw [hon] at hu
    exact hS.ok u (List.mem_of_mem_drop hu)
  have hnum : (ptV y).kind = 1 → (ptV y).t = 0 → fit6 3 (ptV y).n = true := hnf _ (List.mem_of_getElem? hyp)
  obtain ⟨k2, ha1, ha2⟩ := ask_made hmv hmay hlen hkinds hnum hkk
  have e1 : ((on.map (·.k)).map fun k => numP 0 k.typ) = ofs.map fun t => numP 0 t := by rw [hofs, List.map_map, List.map_map]; rfl
  rw [e1] at ha1
  rw [ha1] at hko
  have e2 : k' = k2 := hko.2
  rw [e2, ha2]
end Go.Proofs.YtldjiieckddhkaaGreatDoor
