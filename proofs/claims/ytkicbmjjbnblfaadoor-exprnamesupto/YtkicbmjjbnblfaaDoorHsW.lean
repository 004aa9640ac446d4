/- Slices of texts that read as a list; the contract of the law's has; append of parts and of texts. -/
import Derived.Test.YtkicbmjjbnblfaaDoorNxP
import Derived.Test.YtkicbmjjbnblfaaDoorGrW
import Derived.BigQuiet
namespace Go.Proofs.YtkicbmjjbnblfaaDoor
open Go.RowKit
/-- a slice that reads as a list of texts -/
def SLst (w : World) (v : Value) (l : List Bs) : Prop :=
  ∃ (a : Option Addr) (b off cap : Nat), v = .slice a l.length cap ∧ (0 < l.length → b < w.heap.size ∧ a = some ⟨b, off, none⟩) ∧ ∀ i s, l[i]? = some s → w.cell? ⟨b, off + i, none⟩ = some (.string ⟨s.toArray⟩)
theorem SLst.below {w w' : World} {v : Value} {l : List Bs} {B : Nat} (h : SLst w v l) (hb : Below B w w') (hB : w.heap.size ≤ B) : SLst w' v l := by
  obtain ⟨a, b, off, cap, rfl, hA, hI⟩ := h
  refine ⟨a, b, off, cap, rfl, fun h => ⟨by have := hb.size; have := (hA h).1; omega, (hA h).2⟩, fun i s hs => ?_⟩
  have hlt : b < B := by have := (hA (by have := (List.getElem?_eq_some_iff.1 hs).1; omega)).1; omega
  exact (hb.cell (p := ⟨b, _, none⟩) hlt).trans (hI i s hs)
theorem SLst.of_owns {w : World} {base : Nat} {v : Value} {l : List Bs} (h : w.ownsRow base 9 1 v l.length (l.map encStr)) : SLst w v l := by
  rcases h.2 with ⟨rfl, h0⟩ | ⟨g, cap, cur, rfl, hb, hg, hn, hm, hc, ht⟩
  · have hl : l = [] := List.eq_nil_of_length_eq_zero h0
    subst hl
    exact ⟨none, 0, 0, 0, rfl, fun h => absurd h (Nat.lt_irrefl 0), fun i x hx => by cases hx⟩
  · refine ⟨some ⟨g, 0, none⟩, g, 0, cap, rfl, fun _ => ⟨(Array.getElem?_eq_some_iff.1 hg).1, rfl⟩, fun i s hs => ?_⟩
    obtain ⟨hi, he⟩ := List.getElem?_eq_some_iff.1 hs
    rw [Nat.zero_add, h.cellAt i (by omega), List.getElem?_map, hs]
    rfl
set_option maxRecDepth 100000 in
set_option maxHeartbeats 1600000 in
theorem has_any (v : Value) (l : List Bs) (s : Bs) (w : World) (hL : SLst w v l) (hlen : l.length ≤ 1000000) : Calls Tryd.prog 18 #[v, .string ⟨s.toArray⟩] w fun e w' => e = .returned (.bool (decide (s ∈ l))) ∧ w' = w := by
  obtain ⟨a, b, off, cap, rfl, hA, hI⟩ := hL
  have HA := hide hA
  have HI := hide hI
  obtain ⟨N, hN⟩ : ∃ N, N = l.length := ⟨_, rfl⟩
  have HN := hide hN
  rw [← hN] at hlen ⊢
  have n1 : (N : Int) ≤ 1000000 := by omega
  obtain ⟨S, hS⟩ : ∃ S : ByteArray, S = ⟨s.toArray⟩ := ⟨_, rfl⟩
  rw [← hS]
  have HS := hide hS
  clear hN hA hI hS
  go_enter Tryd.func18, Tryd.ntmps18
  go_wp2_with fail
  go_loopw [8] (fun i wr => ∃ k : Nat, k ≤ N ∧ i = .int .i64 (k : Int) ∧ Hid (wr = w ∧ s ∉ l.take k)) (fun i _ => N - (intOf i).toNat)
  case atStart => exact ⟨0, by omega, rfl, rfl, by simp⟩
  case round =>
    obtain ⟨k, hk, rfl, hh⟩ := hrel
    obtain ⟨hwr, hno⟩ := hh.out
    subst hwr
    have HNO := hide hno
    clear hh hno
    by_cases hlt : k < N
    · have j1 : (k : Int) < (N : Int) := by omega
      have j0 : (0 : Int) ≤ (k : Int) := by omega
      obtain ⟨y, hy⟩ : ∃ y, l[k]? = some y := ⟨_, List.getElem?_eq_getElem (by rw [← HN.out]; exact hlt)⟩
      obtain ⟨hbw, rfl⟩ := HA.out (by rw [← HN.out]; omega)
      have c0 := HI.out k y hy
      obtain ⟨T, hT⟩ : ∃ T : ByteArray, T = ⟨y.toArray⟩ := ⟨_, rfl⟩
      rw [← hT] at c0
      have HB : Hid ((T.toList == S.toList) = decide (y = s)) := by
        show _ = _
        rw [beq_text, hT, HS.out]
        by_cases e : y = s
        · rw [e, decide_eq_true rfl, decide_eq_true rfl]
        · rw [decide_eq_false e, decide_eq_false]
          intro h
          apply e
          have := congrArg (fun x : ByteArray => x.data.toList) h
          simpa using this
      have HY := hide hy
      clear hy hT
      by_cases e : y = s
      · have q1 : (T.toList == S.toList) = true := by rw [HB.out]; exact decide_eq_true e
        have HE : Hid (decide (s ∈ l) = true) := decide_eq_true (by rw [← e]; exact List.mem_of_getElem? HY.out)
        clear e HB
        go_wp2
        go_ret
        exact ⟨by rw [HE.out]; rfl, rfl⟩
      · have q1 : (T.toList == S.toList) = false := by rw [HB.out]; exact decide_eq_false e
        have HE : Hid (s ∉ l.take (k + 1)) := by
          show ¬ _
          rw [List.take_add_one, HY.out]
          intro h
          rcases List.mem_append.1 h with h | h
          · exact HNO.out h
          · simp at h; exact e h.symm
        clear e HB HNO
        go_wp2
        go_roundw
        case rel => exact ⟨k + 1, by omega, by go_num, trivial, HE.out⟩
        case measure => simp [intOf]; omega
    · have HE : Hid (decide (s ∈ l) = false) := decide_eq_false (by
        have h1 := HNO.out
        rw [List.take_of_length_le (by rw [← HN.out]; omega)] at h1
        exact h1)
      go_wp2
      go_ret
      exact ⟨by rw [HE.out]; rfl, rfl⟩
theorem run_append_nilp (ty : Nat) (v : Value) (hv : ∃ a n cap, v = .slice a n cap ∧ n ≤ cap) (c : Nat) (W : World) : (Builtin.append_ #[24, 24] ty #[v, .slice none 0 c]).run Tryd.prog W = .ok v W := by
  obtain ⟨a, n, cap, rfl, hn⟩ := hv
  cases a <;> simp [Builtin.append_, go_sem, hn]
theorem owns_slicep {w : World} {base n : Nat} {v : Value} {xs : List Value} (h : w.ownsRow base 46 5 v n xs) : ∃ a n cap, v = .slice a n cap ∧ n ≤ cap := by
  rcases h.2 with ⟨hv, _⟩ | ⟨g', cap', cur, hv, hb, hg, hn, hm, hc, ht⟩
  · exact ⟨_, _, _, hv, Nat.le_refl _⟩
  · exact ⟨_, _, _, hv, hn⟩
theorem run_append_parts (w : World) (base ty n : Nat) (v : Value) (xs : List Value) (hown : w.ownsRow base 46 5 v n xs) (u : Value) (l : List Pv) (hL : PLst w u l) (hbytes : n + l.length ≤ 1000000000000) (hbase : base ≤ w.heap.size) :
    ∃ v' w', (Builtin.append_ #[24, 24] ty #[v, u]).run Tryd.prog w = .ok v' w' ∧ w'.ownsRow base 46 5 v' (n + l.length) (xs ++ pvsC l) ∧ w.grownBy w' v.ownBlock := by
  obtain ⟨i0, hi, hz0, hz1, hz2⟩ := info_parts in44
  obtain ⟨a, b, off, c, rfl, hA, hI⟩ := hL
  have main : ∀ ad : Addr, a = some ad → (∀ j x, (pvsC l)[j]? = some x → w.cell? (ad.add j) = some x) → ∃ v' w', (Builtin.append_ #[24, 24] ty #[v, .slice a l.length c]).run Tryd.prog w = .ok v' w' ∧ w'.ownsRow base 46 5 v' (n + l.length) (xs ++ pvsC l) ∧ w.grownBy w' v.ownBlock := fun ad had hc => by
    subst had
    obtain ⟨v', w', hr, h2, h3, h4, _⟩ := run_append_own_at (P := Tryd.prog) w base 24 ty 46 i0 _ 5 56 Tryd.underlying24 hi hz0 hz1 hz2 rfl (by omega) _ n xs hown ad l.length c (pvsC l) (pvsC_length l) hc (pvsC_one l) (by unfold maxLen; omega) (by omega) hbase
    exact ⟨v', w', hr, h2, h3⟩
  by_cases hn : 0 < l.length
  · obtain ⟨_, rfl⟩ := hA hn
    exact main _ rfl (pv_cells hI)
  · have hl : l = [] := List.eq_nil_of_length_eq_zero (by omega)
    subst hl
    cases a with
    | some ad => exact main ad rfl (fun j x hx => by cases hx)
    | none =>
      refine ⟨v, w, run_append_nilp ty v (owns_slicep hown) c w, ?_, ⟨rfl, rfl, rfl, Nat.le_refl _, fun _ _ _ => rfl⟩⟩
      show w.ownsRow base 46 5 v n (xs ++ [])
      rw [List.append_nil]; exact hown
theorem wpList_append_parts {w : World} {ops : Array Oper} {rest : List Oper} {o : Oper} {a : Act} {Q : Exit → Act → World → Prop} (hgd : Region.wanted o (yielded ops a.tmps) = true) (s x : Operand)
    (ho : o.op = .call { callee := .builtin .append, args := #[s, x], argTypes := #[24, 24] })
    (base n : Nat) (v : Value) (xs : List Value) (hs : a.eval s = v) (hown : w.ownsRow base 46 5 v n xs) (u : Value) (l : List Pv) (hx : a.eval x = u) (hL : PLst w u l) (hbytes : n + l.length ≤ 1000000000000) (hbase : base ≤ w.heap.size)
    (h : ∀ v' w', w'.ownsRow base 46 5 v' (n + l.length) (xs ++ pvsC l) → w.grownBy w' v.ownBlock → wpList Tryd.prog ops Q rest (a.put o.dst v') w') : wpList Tryd.prog ops Q (o :: rest) a w := by
  refine wpList_step fun K hK => ?_
  rw [if_pos hgd]
  obtain ⟨v', w', hr, h2, h3⟩ := run_append_parts w base o.type n v xs hown u l hL hbytes hbase
  unfold Oper.wp execOp
  simp only [ho, resolve, invoke, builtin, Sem.run_bind, Sem.run_pure, Result.andThen_ok, List.map_toArray, List.map_cons, List.map_nil, hs, hx, hr]
  exact hK _ _ (h v' w' h2 h3)
theorem run_append_nilt (ty : Nat) (v : Value) (hv : ∃ a n cap, v = .slice a n cap ∧ n ≤ cap) (c : Nat) (W : World) : (Builtin.append_ #[37, 37] ty #[v, .slice none 0 c]).run Tryd.prog W = .ok v W := by
  obtain ⟨a, n, cap, rfl, hn⟩ := hv
  cases a <;> simp [Builtin.append_, go_sem, hn]
theorem owns_slicet {w : World} {base n : Nat} {v : Value} {xs : List Value} (h : w.ownsRow base 9 1 v n xs) : ∃ a n cap, v = .slice a n cap ∧ n ≤ cap := by
  rcases h.2 with ⟨hv, _⟩ | ⟨g', cap', cur, hv, hb, hg, hn, hm, hc, ht⟩
  · exact ⟨_, _, _, hv, Nat.le_refl _⟩
  · exact ⟨_, _, _, hv, hn⟩
theorem run_append_texts (w : World) (base ty n : Nat) (v : Value) (xs : List Value) (hown : w.ownsRow base 9 1 v n xs) (u : Value) (l : List Bs) (hL : SLst w u l) (hbytes : n + l.length ≤ 1000000000000) (hbase : base ≤ w.heap.size) :
    ∃ v' w', (Builtin.append_ #[37, 37] ty #[v, u]).run Tryd.prog w = .ok v' w' ∧ w'.ownsRow base 9 1 v' (n + l.length) (xs ++ (l.map encStr)) ∧ w.grownBy w' v.ownBlock := by
  obtain ⟨i0, hi, hz0, hz1, hz2⟩ := info_parts in9
  obtain ⟨a, b, off, c, rfl, hA, hI⟩ := hL
  have main : ∀ ad : Addr, a = some ad → (∀ j x, ((l.map encStr))[j]? = some x → w.cell? (ad.add j) = some x) → ∃ v' w', (Builtin.append_ #[37, 37] ty #[v, .slice a l.length c]).run Tryd.prog w = .ok v' w' ∧ w'.ownsRow base 9 1 v' (n + l.length) (xs ++ (l.map encStr)) ∧ w.grownBy w' v.ownBlock := fun ad had hc => by
    subst had
    obtain ⟨v', w', hr, h2, h3, h4, _⟩ := run_append_own_at (P := Tryd.prog) w base 37 ty 9 i0 _ 1 16 Tryd.underlying37 hi hz0 hz1 hz2 rfl (by omega) _ n xs hown ad l.length c ((l.map encStr)) (by rw [List.length_map, Nat.mul_one]) hc (fun u hu => by obtain ⟨q, _, rfl⟩ := List.mem_map.1 hu; rfl) (by unfold maxLen; omega) (by omega) hbase
    exact ⟨v', w', hr, h2, h3⟩
  by_cases hn : 0 < l.length
  · obtain ⟨_, rfl⟩ := hA hn
    refine main _ rfl (fun j x hx => ?_)
    rw [List.getElem?_map, Option.map_eq_some_iff] at hx
    obtain ⟨q, hq, rfl⟩ := hx
    rw [Addr.add_mid]
    exact hI j q hq
  · have hl : l = [] := List.eq_nil_of_length_eq_zero (by omega)
    subst hl
    cases a with
    | some ad => exact main ad rfl (fun j x hx => by cases hx)
    | none =>
      refine ⟨v, w, run_append_nilt ty v (owns_slicet hown) c w, ?_, ⟨rfl, rfl, rfl, Nat.le_refl _, fun _ _ _ => rfl⟩⟩
      show w.ownsRow base 9 1 v n (xs ++ [])
      rw [List.append_nil]; exact hown
theorem wpList_append_texts {w : World} {ops : Array Oper} {rest : List Oper} {o : Oper} {a : Act} {Q : Exit → Act → World → Prop} (hgd : Region.wanted o (yielded ops a.tmps) = true) (s x : Operand)
    (ho : o.op = .call { callee := .builtin .append, args := #[s, x], argTypes := #[37, 37] })
    (base n : Nat) (v : Value) (xs : List Value) (hs : a.eval s = v) (hown : w.ownsRow base 9 1 v n xs) (u : Value) (l : List Bs) (hx : a.eval x = u) (hL : SLst w u l) (hbytes : n + l.length ≤ 1000000000000) (hbase : base ≤ w.heap.size)
    (h : ∀ v' w', w'.ownsRow base 9 1 v' (n + l.length) (xs ++ (l.map encStr)) → w.grownBy w' v.ownBlock → wpList Tryd.prog ops Q rest (a.put o.dst v') w') : wpList Tryd.prog ops Q (o :: rest) a w := by
  refine wpList_step fun K hK => ?_
  rw [if_pos hgd]
  obtain ⟨v', w', hr, h2, h3⟩ := run_append_texts w base o.type n v xs hown u l hL hbytes hbase
  unfold Oper.wp execOp
  simp only [ho, resolve, invoke, builtin, Sem.run_bind, Sem.run_pure, Result.andThen_ok, List.map_toArray, List.map_cons, List.map_nil, hs, hx, hr]
  exact hK _ _ (h v' w' h2 h3)
end Go.Proofs.YtkicbmjjbnblfaaDoor
