/- A byte slice of the call's own that grows by append, whatever marks its block bears, so nothing of it is frozen. -/
import Derived.Test.YtaefnkaenhmekaaDoorRef
import Derived.ArgAppend
import Derived.OwnWalk
namespace Go.Proofs.YtaefnkaenhmekaaDoor
open Go.RowKit
theorem heap_setCell_any (w : World) (g i : Nat) (cs : Array Value) (t : TypeId) (fz : Nat × Nat) (v : Value) (hg : w.heap[g]? = some (.cells cs t fz)) :
    (w.setCell ⟨g, i, none⟩ v).heap[g]? = some (.cells (cs.setIfInBounds i v) t fz) := by
  rw [setCell_eq_setRow w g i cs t fz v hg]
  exact setRow_heap w g cs _ t _ hg
theorem heap_setCells_any (g : Nat) (t : TypeId) (fz : Nat × Nat) : ∀ (vs : List Value) (o : Nat) (w : World) (c : Array Value), w.heap[g]? = some (.cells c t fz) → (w.setCells g o vs).heap[g]? = some (.cells (putAt c o vs) t fz)
  | [], _, _, _, h => h
  | v :: r, o, w, c, h => by
    rw [World.setCells, putAt]
    exact heap_setCells_any g t fz r (o + 1) _ _ (heap_setCell_any w g o c t fz v h)
def ownsG (w : World) (base : Nat) (v : Value) (n : Nat) (xs : List Value) : Prop :=
  xs.length = n ∧ ∃ g cap cur fz, v = .slice (some ⟨g, 0, none⟩) n cap ∧ base ≤ g ∧ w.heap[g]? = some (.cells cur 5 fz) ∧ (fz.2 = 0 ∨ cur.size ≤ fz.1) ∧ n ≤ cap ∧ cap ≤ maxLen ∧ cur.size = cap ∧ cur.toList.take n = xs
theorem ownsG.form {w : World} {base : Nat} {v : Value} {n : Nat} {xs : List Value} (h : ownsG w base v n xs) : ∃ g cap, v = .slice (some ⟨g, 0, none⟩) n cap ∧ base ≤ g ∧ g < w.heap.size ∧ n ≤ cap := by
  obtain ⟨_, g, cap, cur, fz, hv, hb, hg, _, hn, _⟩ := h
  exact ⟨g, cap, hv, hb, (Array.getElem?_eq_some_iff.1 hg).1, hn⟩
theorem ownsG.cell {w : World} {base g cap : Nat} {n : Nat} {xs : List Value} (h : ownsG w base (.slice (some ⟨g, 0, none⟩) n cap) n xs) (j : Nat) (hj : j < n) : w.cell? ⟨g, j, none⟩ = xs[j]? := by
  obtain ⟨_, g', cap', cur, fz, hv, hb, hg, _, hn, _, _, ht⟩ := h
  injection hv with h1 h2 h3
  injection h1 with h1
  injection h1 with h1
  subst h1
  rw [cell_of_row _ _ _ _ _ _ hg, ← ht, List.getElem?_take_of_lt hj]
  simp
theorem ownsG.kept {w w' : World} {base : Nat} {v : Value} {n : Nat} {xs : List Value} (h : ownsG w base v n xs) (hk : ∀ k, k < w.heap.size → w'.heap[k]? = w.heap[k]?) : ownsG w' base v n xs := by
  obtain ⟨h1, g, cap, cur, fz, hv, hb, hg, r⟩ := h
  exact ⟨h1, g, cap, cur, fz, hv, hb, by rw [hk g (Array.getElem?_eq_some_iff.1 hg).1]; exact hg, r⟩
theorem frozen_of_marks {w : World} {g j : Nat} {cur : Array Value} {t : TypeId} {fz : Nat × Nat} (hg : w.heap[g]? = some (.cells cur t fz)) (hf : fz.2 = 0 ∨ cur.size ≤ fz.1) (hj : j < cur.size) : w.frozen? ⟨g, j, none⟩ = false := by
  unfold World.frozen?
  simp only [hg]
  rcases hf with h | h <;> simp <;> omega
theorem run_append_G {P : Program} (w : World) (base : Nat) (t ty : TypeId) (i : TypeInfo) (ht : P.underlying t = some (.slice 5)) (hi : P.info? 5 = some i) (hz : i.zero = some (.int .u8 0)) (hsize : i.size = 1) (hby : i.bytes = 1)
    (v : Value) (n : Nat) (xs : List Value) (hown : ownsG w base v n xs)
    (a : Addr) (m c : Nat) (news : List Value) (hl : news.length = m) (hnews : ∀ j u, news[j]? = some u → w.cell? (a.add j) = some u) (h1 : ∀ u ∈ news, u.oneCell' = true) (hbytes : n + m ≤ 140737488355328) (hbase : base ≤ w.heap.size) :
    ∃ v' w', (Builtin.append_ #[t, t] ty #[v, .slice (some a) m c]).run P w = .ok v' w' ∧ ownsG w' base v' (n + m) (xs ++ news) ∧ Below base w w' := by
  obtain ⟨hxl, g, cap, cur, fz, rfl, hbg, hg, hfz, hnc, hcm, hcs, htake⟩ := hown
  by_cases hroom : n + m ≤ cap
  · have hr := run_append_room_cells (P := P) w t ty 5 i ht hi g 0 n cap a m c news (by rw [hsize, hl]; omega) hnews h1 hroom (by
      intro j hj; rw [hsize, cell_of_row _ _ _ _ _ _ hg, Array.getElem?_eq_getElem (by omega)]; rfl) (by
      intro j hj; rw [hsize]; exact frozen_of_marks hg hfz (by omega))
    rw [hsize, show 0 + n * 1 = n from by omega] at hr
    have e : cur = (xs ++ ((cur.toList.drop n).take m ++ cur.toList.drop (n + m))).toArray := by
      apply Array.ext'
      rw [← htake]
      show cur.toList = cur.toList.take n ++ ((cur.toList.drop n).take m ++ cur.toList.drop (n + m))
      rw [← List.drop_drop, List.take_append_drop, List.take_append_drop]
    have hp : putAt cur n news = (xs ++ (news ++ cur.toList.drop (n + m))).toArray := by
      have := putAt_mid news xs ((cur.toList.drop n).take m) (cur.toList.drop (n + m)) (by rw [List.length_take, List.length_drop, Array.length_toList]; omega)
      rw [hxl, ← e] at this; exact this
    have hh := heap_setCells_any g 5 fz news n w cur hg
    rw [hp] at hh
    have hsz : ((xs ++ (news ++ cur.toList.drop (n + m))).toArray).size = cap := by simp [hxl, hl]; omega
    refine ⟨_, _, hr, ⟨by rw [List.length_append, hxl, hl], g, cap, _, fz, rfl, hbg, hh, ?_, hroom, hcm, hsz, ?_⟩, below_setCells _ _ hbg _ _ _⟩
    · rw [hsz, ← hcs]; exact hfz
    · show (xs ++ (news ++ cur.toList.drop (n + m))).take (n + m) = xs ++ news
      rw [← List.append_assoc, List.take_left' (by rw [List.length_append, hxl, hl])]
  · have holds : ∀ j u, xs[j]? = some u → w.cell? ((⟨g, 0, none⟩ : Addr).add j) = some u := fun j u hu => by
      have hjn : j < n := by rw [← hxl]; exact (List.getElem?_eq_some_iff.1 hu).1
      rw [addr_add, cell_of_row _ _ _ _ _ _ hg]
      rw [← htake, List.getElem?_take_of_lt hjn] at hu
      simpa using hu
    have hr := run_append_grow (P := P) w t ty 5 i (.int .u8 0) ht hi hz ⟨g, 0, none⟩ n cap xs (by rw [hsize, hxl]; omega) holds a m c news (by rw [hsize, hl]; omega) hnews (by omega) (by omega) (growslice_fits (by omega) (by rw [hby]; omega))
    have hge := grownCap_ge w (n + m) cap 5
    have hcm2 : grownCap w (n + m) cap 5 ≤ maxLen := grownCap_le_maxLen w (n + m) cap 5 (by unfold maxLen; omega)
    refine ⟨_, _, hr, ⟨by rw [List.length_append, hxl, hl], w.heap.size, _, _, (0, 0), rfl, hbase, heap_alloc_new w.drew _, .inl rfl, hge, hcm2, ?_, ?_⟩, ((Below.refl _ _).drew).alloc (by exact hbase) _⟩
    · simp only [Array.size_append, List.size_toArray, size_zeroCells, hxl, hl]
      show n + m + (grownCap w (n + m) cap 5 - (n + m)) * 1 = _
      omega
    · simp only [Array.toList_append, List.append_assoc]
      rw [← List.append_assoc, List.take_left' (by rw [List.length_append, hxl, hl])]
theorem wpList_append_G {P : Program} (w : World) {ops : Array Oper} {rest : List Oper} {o : Oper} {a : Act} {Q : Exit → Act → World → Prop} (hgd : o.guard = none) (s x : Operand) (t : TypeId)
    (ho : o.op = .call { callee := .builtin .append, args := #[s, x], argTypes := #[t, t] })
    (base : Nat) (i : TypeInfo) (ht : P.underlying t = some (.slice 5)) (hi : P.info? 5 = some i) (hz : i.zero = some (.int .u8 0)) (hsize : i.size = 1) (hby : i.bytes = 1)
    (v : Value) (n : Nat) (xs : List Value) (hs : a.eval s = v) (hown : ownsG w base v n xs)
    (ad : Addr) (m c : Nat) (news : List Value) (hx : a.eval x = .slice (some ad) m c) (hl : news.length = m) (hnews : ∀ j u, news[j]? = some u → w.cell? (ad.add j) = some u) (h1 : ∀ u ∈ news, u.oneCell' = true) (hbytes : n + m ≤ 140737488355328) (hbase : base ≤ w.heap.size)
    (h : ∀ v' w', ownsG w' base v' (n + m) (xs ++ news) → Below base w w' → wpList P ops Q rest (a.put o.dst v') w') : wpList P ops Q (o :: rest) a w := by
  refine wpList_plain hgd fun K hK => ?_
  obtain ⟨v', w', hr, h2, h3⟩ := run_append_G (P := P) w base t o.type i ht hi hz hsize hby v n xs hown ad m c news hl hnews h1 hbytes hbase
  unfold Oper.wp execOp
  simp only [ho, resolve, invoke, builtin, Sem.run_bind, Sem.run_pure, Result.andThen_ok, List.map_toArray, List.map_cons, List.map_nil, hs, hx, hr]
  exact hK _ _ (h v' w' h2 h3)
end Go.Proofs.YtaefnkaenhmekaaDoor
