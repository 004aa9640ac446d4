/- QzW | QaW | QbW -/
import Derived.Test.YtldjiieckddhkaaGreatDoorMg31
import Derived.Test.YtldjiieckddhkaaGreatDoorMg40
import Derived.Test.YtldjiieckddhkaaGreatDoorMg42
namespace Go.Proofs.YtldjiieckddhkaaGreatDoor
open Go.RowKit
def SLst (w : World) (v : Value) (l : List Bs) : Prop :=
  ∃ (a : Option Addr) (b off cap : Nat), v = .slice a l.length cap ∧ (0 < l.length → b < w.heap.size ∧ a = some ⟨b, off, none⟩) ∧ ∀ i s, l[i]? = some s → w.cell? ⟨b, off + i, none⟩ = some (.string ⟨s.toArray⟩)
theorem SLst.below {w w' : World} {v : Value} {l : List Bs} {B : Nat} (h : SLst w v l) (hb : Below B w w') (hB : w.heap.size ≤ B) : SLst w' v l := by
  obtain ⟨a, b, off, cap, rfl, hA, hI⟩ := h
  refine ⟨a, b, off, cap, rfl, fun h => ⟨by have := hb.size; have := (hA h).1; omega, (hA h).2⟩, fun i s hs => ?_⟩
  have hlt : b < B := by have := (hA (by have := (List.getElem?_eq_some_iff.1 hs).1; omega)).1; omega
  exact (hb.cell (p := ⟨b, _, none⟩) hlt).trans (hI i s hs)
theorem SLst.of_owns {w : World} {base : Nat} {v : Value} {l : List Bs} (h : w.ownsRow base 9 1 v l.length (l.map encStr)) : SLst w v l := by
  rcases h.2 with ⟨rfl, h0⟩ | ⟨g, cap, cur, rfl, hb, hg, hn, hm, hc, ht⟩
  · have hl : l = [] := List.eq_nil_of_length_eq_zero h0
    subst hl
    exact ⟨none, 0, 0, 0, rfl, fun h => absurd h (Nat.lt_irrefl 0), fun i x hx => by cases hx⟩
  · refine ⟨some ⟨g, 0, none⟩, g, 0, cap, rfl, fun _ => ⟨(Array.getElem?_eq_some_iff.1 hg).1, rfl⟩, fun i s hs => ?_⟩
    obtain ⟨hi, he⟩ := List.getElem?_eq_some_iff.1 hs
    rw [Nat.zero_add, h.cellAt i (by omega), List.getElem?_map, hs]
    rfl
end Go.Proofs.YtldjiieckddhkaaGreatDoor
namespace Go.Proofs.YtldjiieckddhkaaGreatDoor
open Go.RowKit
theorem run_append_nilt (ty : Nat) (v : Value) (hv : ∃ a n cap, v = .slice a n cap ∧ n ≤ cap) (c : Nat) (W : World) : (Builtin.append_ #[44, 44] ty #[v, .slice none 0 c]).run Tryz.prog W = .ok v W := by
  obtain ⟨a, n, cap, rfl, hn⟩ := hv
  cases a <;> simp [Builtin.append_, go_sem, hn]
theorem owns_slicet {w : World} {base n : Nat} {v : Value} {xs : List Value} (h : w.ownsRow base 9 1 v n xs) : ∃ a n cap, v = .slice a n cap ∧ n ≤ cap := by
  rcases h.2 with ⟨hv, _⟩ | ⟨g', cap', cur, hv, hb, hg, hn, hm, hc, ht⟩
  · exact ⟨_, _, _, hv, Nat.le_refl _⟩
  · exact ⟨_, _, _, hv, hn⟩
theorem run_append_texts (w : World) (base ty n : Nat) (v : Value) (xs : List Value) (hown : w.ownsRow base 9 1 v n xs) (u : Value) (l : List Bs) (hL : SLst w u l) (hbytes : n + l.length ≤ 1000000000000) (hbase : base ≤ w.heap.size) :
    ∃ v' w', (Builtin.append_ #[44, 44] ty #[v, u]).run Tryz.prog w = .ok v' w' ∧ w'.ownsRow base 9 1 v' (n + l.length) (xs ++ (l.map encStr)) ∧ w.grownBy w' v.ownBlock := by
  obtain ⟨i0, hi, hz0, hz1, hz2⟩ := info_parts in9
  obtain ⟨a, b, off, c, rfl, hA, hI⟩ := hL
  have main : ∀ ad : Addr, a = some ad → (∀ j x, ((l.map encStr))[j]? = some x → w.cell? (ad.add j) = some x) → ∃ v' w', (Builtin.append_ #[44, 44] ty #[v, .slice a l.length c]).run Tryz.prog w = .ok v' w' ∧ w'.ownsRow base 9 1 v' (n + l.length) (xs ++ (l.map encStr)) ∧ w.grownBy w' v.ownBlock := fun ad had hc => by
    subst had
    obtain ⟨v', w', hr, h2, h3, h4, _⟩ := run_append_own_at (P := Tryz.prog) w base 44 ty 9 i0 _ 1 16 Tryz.underlying44 hi hz0 hz1 hz2 rfl (by omega) _ n xs hown ad l.length c ((l.map encStr)) (by rw [List.length_map, Nat.mul_one]) hc (fun u hu => by obtain ⟨q, _, rfl⟩ := List.mem_map.1 hu; rfl) (by unfold maxLen; omega) (by omega) hbase
    exact ⟨v', w', hr, h2, h3⟩
  by_cases hn : 0 < l.length
  · obtain ⟨_, rfl⟩ := hA hn
    refine main _ rfl (fun j x hx => ?_)
    rw [List.getElem?_map, Option.map_eq_some_iff] at hx
    obtain ⟨q, hq, rfl⟩ := hx
    rw [Addr.add_mid]
    exact hI j q hq
  · have hl : l = [] := List.eq_nil_of_length_eq_zero (by omega)
    subst hl
    cases a with
    | some ad => exact main ad rfl (fun j x hx => by cases hx)
    | none =>
      refine ⟨v, w, run_append_nilt ty v (owns_slicet hown) c w, ?_, ⟨rfl, rfl, rfl, Nat.le_refl _, fun _ _ _ => rfl⟩⟩
      show w.ownsRow base 9 1 v n (xs ++ [])
      rw [List.append_nil]; exact hown
theorem wpList_append_texts {w : World} {ops : Array Oper} {rest : List Oper} {o : Oper} {a : Act} {Q : Exit → Act → World → Prop} (hgd : Region.wanted o (yielded ops a.tmps) = true) (s x : Operand)
    (ho : o.op = .call { callee := .builtin .append, args := #[s, x], argTypes := #[44, 44] })
    (base n : Nat) (v : Value) (xs : List Value) (hs : a.eval s = v) (hown : w.ownsRow base 9 1 v n xs) (u : Value) (l : List Bs) (hx : a.eval x = u) (hL : SLst w u l) (hbytes : n + l.length ≤ 1000000000000) (hbase : base ≤ w.heap.size)
    (h : ∀ v' w', w'.ownsRow base 9 1 v' (n + l.length) (xs ++ (l.map encStr)) → w.grownBy w' v.ownBlock → wpList Tryz.prog ops Q rest (a.put o.dst v') w') : wpList Tryz.prog ops Q (o :: rest) a w := by
  refine wpList_step fun K hK => ?_
  rw [if_pos hgd]
  obtain ⟨v', w', hr, h2, h3⟩ := run_append_texts w base o.type n v xs hown u l hL hbytes hbase
  unfold Oper.wp execOp
  simp only [ho, resolve, invoke, builtin, Sem.run_bind, Sem.run_pure, Result.andThen_ok, List.map_toArray, List.map_cons, List.map_nil, hs, hx, hr]
  exact hK _ _ (h v' w' h2 h3)
theorem ins_at : ∀ (out : List Bs) (s : Bs) (k : Nat), k ≤ out.length → (∀ j a, j < k → out[j]? = some a → ltB a s = true) → (∀ a, out[k]? = some a → ltB a s = false ∧ a ≠ s) → insN out s = out.take k ++ [s] ++ out.drop k
  | [], s, k, hk, _, _ => by
    have : k = 0 := by simpa using hk
    subst this; rfl
  | a :: r, s, 0, hk, _, h2 => by
    have h := h2 a rfl
    unfold insN
    rw [if_neg (by rw [h.1]; decide), if_neg h.2]; rfl
  | a :: r, s, k + 1, hk, h1, h2 => by
    unfold insN
    rw [if_pos (h1 0 a (by omega) rfl), ins_at r s k (by simpa using hk) (fun j b hj hb => h1 (j + 1) b (by omega) hb) (fun b hb => h2 b hb)]
    rfl
theorem ins_has : ∀ (out : List Bs) (s : Bs) (k : Nat), (∀ j a, j < k → out[j]? = some a → ltB a s = true) → out[k]? = some s → insN out s = out
  | [], s, k, _, h2 => by cases h2
  | a :: r, s, 0, _, h2 => by
    have e : a = s := Option.some.inj h2
    unfold insN
    rw [e, if_neg (by rw [ltB_irr]; decide), if_pos rfl]
  | a :: r, s, k + 1, h1, h2 => by
    unfold insN
    rw [if_pos (h1 0 a (by omega) rfl), ins_has r s k (fun j b hj hb => h1 (j + 1) b (by omega) hb) h2]
theorem names_take (x : List Pt) (k : Nat) (p : Pt) (h : x[k]? = some p) : namesP (x.take (k + 1)) = if p.s = [] then namesP (x.take k) else insN (namesP (x.take k)) p.s := by
  unfold namesP
  rw [List.take_add_one, h, List.foldl_append]; rfl
theorem own_cell {w : World} {base L cap : Nat} {a : Option Addr} {out : List Bs} (h : w.ownsRow base 9 1 (.slice a L cap) L (out.map encStr)) {k : Nat} {y : Bs} (hy : out[k]? = some y) : ∃ g, a = some ⟨g, 0, none⟩ ∧ w.cell? ⟨g, k, none⟩ = some (.string ⟨y.toArray⟩) := by
  have hl : out.length = L := by have := h.1; rw [List.length_map] at this; omega
  have hk := (List.getElem?_eq_some_iff.1 hy).1
  rcases h.2 with ⟨_, h0⟩ | ⟨g, c, cur, h1, _⟩
  · omega
  · injection h1 with e1 e2 e3
    subst e1
    exact ⟨g, rfl, by rw [h.cellAt k (by omega), List.getElem?_map, hy]; rfl⟩
theorem text_low {w : World} {base L cap : Nat} {a : Option Addr} {out : List Bs} (h : w.ownsRow base 9 1 (.slice a L cap) L (out.map encStr)) (k : Nat) (hk : k ≤ L) : SLst w (.slice a k cap) (out.take k) := by
  have hl : out.length = L := by have := h.1; rw [List.length_map] at this; omega
  have hs := SLst.of_owns (l := out) (by rw [hl]; exact h)
  obtain ⟨a', b, off, c, hv, hA, hI⟩ := hs
  injection hv with e1 e2 e3
  subst e1 e3
  refine ⟨a, b, off, cap, by rw [List.length_take, Nat.min_eq_left (by omega)], fun q => ?_, fun i s hi => ?_⟩
  · refine hA ?_
    rw [List.length_take] at q; omega
  · refine hI i s ?_
    rw [List.getElem?_take] at hi
    split at hi
    · exact hi
    · cases hi
set_option maxRecDepth 100000 in
theorem cut_low {w : World} {base L cap : Nat} {a : Option Addr} {xs : List Value} (h : w.ownsRow base 9 1 (.slice a L cap) L xs) (k : Nat) (hk : k ≤ L) (W : World) : (Instr.slice 44 (.slice a L cap) none (some (.int .i64 (k : Int))) none).run Tryz.prog W = .ok (.slice a k cap) W := by
  rcases h.2 with ⟨h1, h2⟩ | ⟨g, cap', cur, h1, r2, r3, r4, r5, r6, r7⟩
  · injection h1 with e1 e2 e3
    subst e1 e3
    obtain rfl : k = 0 := by omega
    obtain rfl : L = 0 := h2
    simp [go_sem]
  · injection h1 with e1 e2 e3
    subst e1 e3
    have i1 : (k : Int) ≤ (cap : Int) := by omega
    simp [go_sem, i1]
set_option maxRecDepth 100000 in
theorem cut_high {w : World} {base L cap : Nat} {a : Option Addr} {out : List Bs} (h : w.ownsRow base 9 1 (.slice a L cap) L (out.map encStr)) (k : Nat) (hk : k ≤ L) : ∃ V, (∀ W, (Instr.slice 44 (.slice a L cap) (some (.int .i64 (k : Int))) none none).run Tryz.prog W = .ok V W) ∧ SLst w V (out.drop k) := by
  have hl : out.length = L := by have := h.1; rw [List.length_map] at this; omega
  have hcl : ∀ g, a = some ⟨g, 0, none⟩ → ∀ j, j < L * 1 → w.cell? ⟨g, j, none⟩ = (out.map encStr)[j]? := fun g e => by subst e; exact h.cellAt
  rcases h.2 with ⟨h1, h2⟩ | ⟨g, cap', cur, h1, r2, r3, r4, r5, r6, r7⟩
  · injection h1 with e1 e2 e3
    subst e1 e3
    obtain rfl : k = 0 := by omega
    obtain rfl : L = 0 := h2
    obtain rfl : out = [] := List.eq_nil_of_length_eq_zero hl
    exact ⟨.slice none 0 0, fun W => by simp [go_sem], none, 0, 0, 0, rfl, fun q => absurd q (Nat.lt_irrefl 0), fun i s hi => by cases hi⟩
  · injection h1 with e1 e2 e3
    subst e1 e3
    have hd : (out.drop k).length = L - k := by rw [List.length_drop, hl]
    have i1 : (k : Int) ≤ (L : Int) := by omega
    by_cases hc : cap - k = 0
    · have e : out.drop k = [] := List.eq_nil_of_length_eq_zero (by omega)
      refine ⟨.slice (some ⟨g, 0, none⟩) (L - k) (cap - k), fun W => by simp [go_sem, hc, i1]; omega, ?_⟩
      rw [e]
      exact ⟨some ⟨g, 0, none⟩, 0, 0, cap - k, by rw [show L - k = 0 from by omega]; rfl, fun q => absurd q (Nat.lt_irrefl 0), fun i s hi => by cases hi⟩
    · refine ⟨.slice (some ⟨g, k, none⟩) (L - k) (cap - k), fun W => by simp [go_sem, i1]; omega, ?_⟩
      refine ⟨some ⟨g, k, none⟩, g, k, cap - k, by rw [hd], fun _ => ⟨(Array.getElem?_eq_some_iff.1 r3).1, rfl⟩, fun i s hi => ?_⟩
      rw [List.getElem?_drop] at hi
      have hik := (List.getElem?_eq_some_iff.1 hi).1
      rw [hcl g rfl (k + i) (by omega), List.getElem?_map, hi]; rfl
theorem slst_one (w : World) (s : ByteArray) {g : Nat} (hg : w.heap.size = g) : SLst (w.alloc (.cells #[.string s] 9)) (.slice (some ⟨g, 0, none⟩) 1 1) [s.data.toList] := by
  subst hg
  refine ⟨_, w.heap.size, 0, 1, rfl, fun _ => ⟨by rw [World.size_alloc]; omega, rfl⟩, fun i t hi => ?_⟩
  match i, hi with
  | 0, hi =>
    have e := Option.some.inj hi
    rw [← e, text_back]
    exact Lib.cell_of_heap (heap_alloc_new w (.cells #[.string s] 9)) 0
end Go.Proofs.YtldjiieckddhkaaGreatDoor
namespace Go.Proofs.YtldjiieckddhkaaGreatDoor
open Go.RowKit
theorem text_final {W : World} {B b n : Nat} {v : Value} {xs : List Value} {L : List Bs} (h : W.ownsRow B 9 1 v n xs) (hb : b ≤ B) (hx : xs = L.map encStr) : W.ownsRow b 9 1 v L.length (L.map encStr) := by
  subst hx
  have e : n = L.length := by have := h.1; rw [List.length_map] at this; omega
  subst e
  refine ⟨h.1, ?_⟩
  rcases h.2 with q | ⟨g, cap, cur, q1, q2, q3⟩
  · exact .inl q
  · exact .inr ⟨g, cap, cur, q1, Nat.le_trans hb q2, q3⟩
set_option maxRecDepth 100000 in
set_option maxHeartbeats 1600000 in
theorem qNames_bad (v : Value) (x : List Pv) (w : World) (hL : PLst w v x) (hlen : x.length ≤ 4398046510976) (hc : checkP (x.map ptV) ≠ 0) : Calls Tryz.prog 30 #[v] w fun e w' => e = .returned (.tuple #[.slice none 0 0, .int .i64 (checkP (x.map ptV))]) ∧ Below w.heap.size w w' := by
  have c1 := qCheck_any v x w hL hlen
  obtain ⟨a, b, off, cap, rfl, _, _⟩ := hL
  obtain ⟨C, hC⟩ : ∃ C, C = checkP (x.map ptV) := ⟨_, rfl⟩
  rw [← hC] at c1 hc ⊢
  have i1 : (C == 0) = false := by rw [beq_eq_false_iff_ne]; exact hc
  generalize x.length = N at *
  clear hC hc hlen
  go_enter Tryz.func30, Tryz.ntmps30
  go_wp2_with fail
  refine c1.mono ?_
  rintro e w1 ⟨rfl, hb1⟩
  have B1 := hide hb1
  clear c1 hb1
  go_wp2
  go_ret2
  exact ⟨rfl, B1.out⟩
set_option maxRecDepth 100000 in
set_option maxHeartbeats 3200000 in
theorem qNames_ok (v : Value) (x : List Pv) (w : World) (hL : PLst w v x) (hlen : x.length ≤ 4398046510976) (hc : checkP (x.map ptV) = 0) : Calls Tryz.prog 30 #[v] w fun e w' => ∃ u, e = .returned (.tuple #[u, .int .i64 0]) ∧ SLst w' u (namesP (x.map ptV)) ∧ Below w.heap.size w w' := by
  have c1 := qCheck_any v x w hL hlen
  have h5 := (check_parts hc).1
  rw [List.length_map] at h5
  rw [hc] at c1
  obtain ⟨a, b, off, cap, rfl, hA, hI⟩ := hL
  have HA := hide hA
  have HI := hide hI
  obtain ⟨N, hN⟩ : ∃ N, N = x.length := ⟨_, rfl⟩
  have HN := hide hN
  rw [← hN] at h5 c1 ⊢
  have n5 : (N : Int) ≤ 500 := by omega
  clear hN hA hI hc hlen
  go_enter Tryz.func30, Tryz.ntmps30
  go_wp2_with fail
  refine c1.mono ?_
  rintro e w1 ⟨rfl, hb1⟩
  have B1 := hide hb1
  clear c1 hb1
  go_wp2_with fail
  go_loopw [5, 6, 7, 8] (fun ov i _ _ wr => ∃ (k : Nat) (out : List Bs) (ov' : Value), k ≤ N ∧ i = .int .i64 (k : Int) ∧ ov' = ov ∧ Hid (wr.ownsRow w.heap.size 9 1 ov' out.length (out.map encStr) ∧ out = namesP ((x.map ptV).take k) ∧ out.length ≤ k ∧ Below w.heap.size w wr)) (fun _ i _ _ _ => N - (intOf i).toNat)
  case atStart => exact ⟨0, [], .slice none 0 0, by omega, rfl, rfl, World.ownsRow_nil _ _ _ _, rfl, Nat.le_refl _, B1.out⟩
  case round =>
    obtain ⟨k, out, ov, hk, rfl, rfl, hh⟩ := hrel
    have O := hide hh.out.1
    have HO := hide hh.out.2.1
    have hol := hh.out.2.2.1
    have HB := hide hh.out.2.2.2
    clear hh
    by_cases hlt : k < N
    · have j1 : (k : Int) < (N : Int) := by omega
      have j0 : (0 : Int) ≤ (k : Int) := by omega
      obtain ⟨y, hy⟩ : ∃ y, x[k]? = some y := ⟨_, List.getElem?_eq_getElem (by rw [← HN.out]; exact hlt)⟩
      have HY : Hid ((x.map ptV)[k]? = some (ptV y)) := by show _ = _; rw [List.getElem?_map, hy]; rfl
      obtain ⟨hbw, rfl⟩ := HA.out (by rw [← HN.out]; omega)
      obtain ⟨q0, q1, q2, q3, q4⟩ := HI.out k y hy
      have HC3 : Hid (∀ W, Below w.heap.size w W → W.cell? ⟨b, off + k * 5 + 3, none⟩ = some (.string y.s)) := fun W hW => (hW.cell (p := ⟨b, off + k * 5 + 3, none⟩) hbw).trans q3
      have HNT := hide (names_take (x.map ptV) k (ptV y) HY.out)
      clear q0 q1 q2 q3 q4 hy
      obtain ⟨wo, hwo⟩ : ∃ wo, wo = wr := ⟨_, rfl⟩
      subst hwo
      obtain ⟨da, dcap, hdv, hdc⟩ := own_form3 O.out
      subst hdv
      obtain ⟨L, hLL⟩ : ∃ L, L = out.length := ⟨_, rfl⟩
      have HOL := hide hLL
      rw [← hLL] at O hdc hol ⊢
      have l5 : (L : Int) ≤ 500 := by omega
      clear hLL
      go_wp2_with fail
      go_loopw [7] (fun i wx => ∃ (kk : Nat), kk ≤ L ∧ i = .int .i64 (kk : Int) ∧ Hid ((∀ j a, j < kk → out[j]? = some a → ltB a y.s.data.toList = true) ∧ Below wo.heap.size wo wx)) (fun i _ => L - (intOf i).toNat)
      case atStart => exact ⟨0, by omega, rfl, fun j a hj => absurd hj (Nat.not_lt_zero _), Below.refl _ _⟩
      case round =>
        obtain ⟨kk, hkk, rfl, hh⟩ := hrel
        have HLS := hide hh.out.1
        have HWX := hide hh.out.2
        clear hh
        obtain ⟨wx, hwx⟩ : ∃ wx, wx = wr := ⟨_, rfl⟩
        subst hwx
        have c3 := HC3.out wx (HB.out.trans (HWX.out.mono HB.out.size))
        have g0 : (0 : Int) ≤ (kk : Int) := by omega
        by_cases hlt2 : kk < L
        · have j2 : (kk : Int) < (L : Int) := by omega
          obtain ⟨z, hz⟩ : ∃ z, out[kk]? = some z := ⟨_, List.getElem?_eq_getElem (by rw [← HOL.out]; exact hlt2)⟩
          obtain ⟨g, hg, hcell⟩ := own_cell (own_on O.out HWX.out) hz
          subst hg
          have HZ := hide hz
          have hb1 : Op.bytesLess (⟨z.toArray⟩ : ByteArray).toList y.s.toList = ltB z y.s.data.toList := by
            rw [ltB_less, ByteArray.toList_eq, ByteArray.toList_eq]
          have hb2 := beq_text ⟨z.toArray⟩ y.s
          have HZE : Hid (((⟨z.toArray⟩ : ByteArray) = y.s) ↔ z = y.s.data.toList) := ⟨fun e => by rw [← e], fun e => by rw [e, text_back]⟩
          obtain ⟨T, hT⟩ : ∃ T : ByteArray, T = ⟨z.toArray⟩ := ⟨_, rfl⟩
          rw [← hT] at hcell hb1 hb2 HZE
          clear hz hT
          cases hlb : ltB z y.s.data.toList with
          | true =>
            have hrl : Op.bytesLess T.toList y.s.toList = true := hb1.trans hlb
            have HN2 : Hid (∀ j a, j < kk + 1 → out[j]? = some a → ltB a y.s.data.toList = true) := fun j a hj ha => by
              rcases Nat.lt_or_ge j kk with h | h
              · exact HLS.out j a h ha
              · have e : j = kk := by omega
                subst e
                rw [← Option.some.inj (HZ.out.symm.trans ha)]
                exact hlb
            have HLB := hide hlb
            clear hb1 hb2 hlb
            go_wp2
            go_quiet (fail)
            go_wp2
            go_roundw
            case rel => exact ⟨kk + 1, by omega, by go_num, HN2.out, below_drawn HWX.out _⟩
            case measure => simp [intOf]; omega
          | false =>
            have hrl : Op.bytesLess T.toList y.s.toList = false := hb1.trans hlb
            have HB2 := hide hb2
            have HLB := hide hlb
            clear hb1 hb2 hlb
            go_wp2
            go_quiet (fail)
            go_wp2
            have HWZ := hide (below_drawn HWX.out nq)
            have c3z := HC3.out (wx.drewN nq) (HB.out.trans (HWZ.out.mono HB.out.size))
            have hcz : (wx.drewN nq).cell? ⟨g, kk, none⟩ = some (.string T) := hcell
            clear c3 hcell HWX hrl
            generalize wx.drewN nq = wz at *
            by_cases hse : y.s.data.toList = []
            · have i8 : y.s.toList.isEmpty = true := by rw [ByteArray.toList_eq, hse]; rfl
              have HSE := hide hse
              clear HB2 hse
              go_wp2
              go_quiet (fail)
              go_wp2
              have HIN : Hid (namesP ((x.map ptV).take (k + 1)) = out) := by
                show _ = _
                rw [HNT.out, if_pos (show (ptV y).s = [] from HSE.out), ← HO.out]
              have HWQ := hide (below_drawn HWZ.out nq)
              have OQ := hide (own_on O.out HWQ.out)
              go_roundw
              case rel => exact ⟨k + 1, out, _, by omega, by go_num, rfl, by rw [← HOL.out]; exact OQ.out, HIN.out.symm, by rw [← HOL.out]; omega, HB.out.trans (HWQ.out.mono HB.out.size)⟩
              case measure => simp [intOf]; omega
            · have i8 : y.s.toList.isEmpty = false := by
                rw [ByteArray.toList_eq]
                cases h : y.s.data.toList with
                | nil => exact absurd h hse
                | cons c r => rfl
              have HSE : Hid (¬ (ptV y).s = []) := hse
              clear hse
              by_cases heq : T = y.s
              · have i9 : (T.toList == y.s.toList) = true := by rw [HB2.out]; exact decide_eq_true heq
                have HEQ := hide (HZE.out.1 heq)
                clear HB2 heq
                go_wp2
                go_quiet (fail)
                go_wp2
                have HIN : Hid (namesP ((x.map ptV).take (k + 1)) = out) := by
                  show _ = _
                  rw [HNT.out, if_neg HSE.out, ← HO.out]; exact ins_has out _ kk HLS.out (by rw [HZ.out, HEQ.out]; rfl)
                have HWQ := hide (below_drawn HWZ.out nq)
                have OQ := hide (own_on O.out HWQ.out)
                go_roundw
                case rel => exact ⟨k + 1, out, _, by omega, by go_num, rfl, by rw [← HOL.out]; exact OQ.out, HIN.out.symm, by rw [← HOL.out]; omega, HB.out.trans (HWQ.out.mono HB.out.size)⟩
                case measure => simp [intOf]; omega
              · have i9 : (T.toList == y.s.toList) = false := by rw [HB2.out]; exact decide_eq_false heq
                have HEQ : Hid (¬ z = y.s.data.toList) := fun e => heq (HZE.out.2 e)
                clear HB2 heq
                go_wp2
                go_quiet (fail)
                have HIN : Hid (namesP ((x.map ptV).take (k + 1)) = out.take kk ++ [y.s.data.toList] ++ out.drop kk) := by
                  show _ = _
                  rw [HNT.out, if_neg HSE.out, ← HO.out]
                  exact ins_at out _ kk (by rw [← HOL.out]; omega) HLS.out (fun a ha => by rw [← Option.some.inj (HZ.out.symm.trans ha)]; exact ⟨HLB.out, HEQ.out⟩)
                have HWQ := hide (below_drawn HWZ.out nq)
                have BQ := hide (HB.out.trans (HWQ.out.mono HB.out.size))
                have OQ := hide (own_on O.out HWQ.out)
                generalize wz.drewN nq = wq at *
                have SLo := hide (text_low OQ.out kk hkk)
                have CLo := cut_low OQ.out kk hkk
                obtain ⟨V, CHi, hVS⟩ := cut_high OQ.out kk hkk
                have SHi := hide hVS
                have HLT : Hid ((out.take kk).length ≤ 500) := by show _ ≤ _; rw [List.length_take]; omega
                have HLD : Hid ((out.drop kk).length ≤ 500) := by show _ ≤ _; rw [List.length_drop]; have := HOL.out; omega
                have HLN : Hid ((out.take kk ++ [y.s.data.toList] ++ out.drop kk).length ≤ k + 1) := by
                  show _ ≤ _
                  rw [List.length_append, List.length_append, List.length_take, List.length_drop]
                  have := HOL.out
                  show _ + 1 + _ ≤ _
                  omega
                have kc : (kk : Int) ≤ 500 := by omega
                clear hVS O HO HNT HLS HWZ HWQ
                have h1 := HLT.out
                have h2 := HLD.out
                go_wp2_with (at_builtin; go_must (first
                  | (refine wpList_append_texts (by rfl) _ _ (by rfl) wq.heap.size 0 (.slice none 0 0) [] (by rfl) (World.ownsRow_nil wq wq.heap.size 9 1) (.slice _ kk dcap) (out.take kk) (by rfl) SLo.out (by omega) (Nat.le_refl _) ?_; intro v5 w5 hown5 hgrow5; have O5 := hide hown5; have C5 := hide ((Below.refl wq.heap.size wq).grown hgrow5 (Nat.le_refl _) (fun r hr => by cases hr)); have c5 := HC3.out w5 (BQ.out.trans (C5.out.mono BQ.out.size)); have z5 := C5.out.size; clear hown5 hgrow5)
                  | (refine wpList_append_texts (by rfl) _ _ (by rfl) wq.heap.size _ v5 _ (by rfl) (O5.out.alloc _) (.slice (some ⟨w5.heap.size, 0, none⟩) 1 1) [y.s.data.toList] (by rfl) (slst_one w5 y.s rfl) (by first | omega | (simp only [List.length_cons, List.length_nil]; omega)) (by simp; omega) ?_; intro v6 w6 hown6 hgrow6; have O6 := hide hown6; have C6 := hide ((C5.out.alloc C5.out.size _).grown hgrow6 (by simp; omega) (fun r hr => (O5.out.lt r hr).1)); have SH6 := hide (SHi.out.below C6.out (Nat.le_refl _)); clear hown6 hgrow6)
                  | (refine wpList_append_texts (by rfl) _ _ (by rfl) wq.heap.size _ v6 _ (by rfl) O6.out V (out.drop kk) (by rfl) SH6.out (by first | omega | (simp only [List.length_cons, List.length_nil]; omega)) C6.out.size ?_; intro v7 w7 hown7 hgrow7; have O7 := hide hown7; have C7 := hide (C6.out.grown hgrow7 C6.out.size (fun r hr => (O6.out.lt r hr).1)); clear hown7 hgrow7)))
                go_roundw
                case rel => exact ⟨k + 1, out.take kk ++ [y.s.data.toList] ++ out.drop kk, v7, by omega, by go_num, rfl, text_final O7.out BQ.out.size (by simp), HIN.out.symm, HLN.out, BQ.out.trans (C7.out.mono BQ.out.size)⟩
                case measure => simp [intOf]; omega
        · obtain rfl : kk = L := by omega
          have hkk2 : kk ≤ kk := Nat.le_refl _
          go_wp2
          go_quiet (fail)
          go_wp2
          have HWZ := hide (below_drawn HWX.out nq)
          have c3z := HC3.out (wx.drewN nq) (HB.out.trans (HWZ.out.mono HB.out.size))
          clear c3 HWX hkk2
          generalize wx.drewN nq = wz at *
          by_cases hse : y.s.data.toList = []
          · have i8 : y.s.toList.isEmpty = true := by rw [ByteArray.toList_eq, hse]; rfl
            have HSE := hide hse
            clear hse
            go_wp2
            go_quiet (fail)
            go_wp2
            have HIN : Hid (namesP ((x.map ptV).take (k + 1)) = out) := by
              show _ = _
              rw [HNT.out, if_pos (show (ptV y).s = [] from HSE.out), ← HO.out]
            have HWQ := hide (below_drawn HWZ.out nq)
            have OQ := hide (own_on O.out HWQ.out)
            go_roundw
            case rel => exact ⟨k + 1, out, _, by omega, by go_num, rfl, by rw [← HOL.out]; exact OQ.out, HIN.out.symm, by rw [← HOL.out]; omega, HB.out.trans (HWQ.out.mono HB.out.size)⟩
            case measure => simp [intOf]; omega
          · have i8 : y.s.toList.isEmpty = false := by
              rw [ByteArray.toList_eq]
              cases h : y.s.data.toList with
              | nil => exact absurd h hse
              | cons c r => rfl
            have HSE : Hid (¬ (ptV y).s = []) := hse
            clear hse
            go_wp2
            go_quiet (fail)
            have HIN : Hid (namesP ((x.map ptV).take (k + 1)) = out.take kk ++ [y.s.data.toList] ++ out.drop kk) := by
              show _ = _
              rw [HNT.out, if_neg HSE.out, ← HO.out]
              exact ins_at out _ kk (by rw [← HOL.out]; omega) HLS.out (fun a ha => by have := (List.getElem?_eq_some_iff.1 ha).1; have := HOL.out; omega)
            have HWQ := hide (below_drawn HWZ.out nq)
            have BQ := hide (HB.out.trans (HWQ.out.mono HB.out.size))
            have OQ := hide (own_on O.out HWQ.out)
            generalize wz.drewN nq = wq at *
            have SLo := hide (text_low OQ.out kk hkk)
            have CLo := cut_low OQ.out kk hkk
            obtain ⟨V, CHi, hVS⟩ := cut_high OQ.out kk hkk
            have SHi := hide hVS
            have HLT : Hid ((out.take kk).length ≤ 500) := by show _ ≤ _; rw [List.length_take]; omega
            have HLD : Hid ((out.drop kk).length ≤ 500) := by show _ ≤ _; rw [List.length_drop]; have := HOL.out; omega
            have HLN : Hid ((out.take kk ++ [y.s.data.toList] ++ out.drop kk).length ≤ k + 1) := by
              show _ ≤ _
              rw [List.length_append, List.length_append, List.length_take, List.length_drop]
              have := HOL.out
              show _ + 1 + _ ≤ _
              omega
            have kc : (kk : Int) ≤ 500 := by omega
            clear hVS O HO HNT HLS HWZ HWQ
            have h1 := HLT.out
            have h2 := HLD.out
            go_wp2_with (at_builtin; go_must (first
              | (refine wpList_append_texts (by rfl) _ _ (by rfl) wq.heap.size 0 (.slice none 0 0) [] (by rfl) (World.ownsRow_nil wq wq.heap.size 9 1) (.slice _ kk dcap) (out.take kk) (by rfl) SLo.out (by omega) (Nat.le_refl _) ?_; intro v5 w5 hown5 hgrow5; have O5 := hide hown5; have C5 := hide ((Below.refl wq.heap.size wq).grown hgrow5 (Nat.le_refl _) (fun r hr => by cases hr)); have c5 := HC3.out w5 (BQ.out.trans (C5.out.mono BQ.out.size)); have z5 := C5.out.size; clear hown5 hgrow5)
              | (refine wpList_append_texts (by rfl) _ _ (by rfl) wq.heap.size _ v5 _ (by rfl) (O5.out.alloc _) (.slice (some ⟨w5.heap.size, 0, none⟩) 1 1) [y.s.data.toList] (by rfl) (slst_one w5 y.s rfl) (by first | omega | (simp only [List.length_cons, List.length_nil]; omega)) (by simp; omega) ?_; intro v6 w6 hown6 hgrow6; have O6 := hide hown6; have C6 := hide ((C5.out.alloc C5.out.size _).grown hgrow6 (by simp; omega) (fun r hr => (O5.out.lt r hr).1)); have SH6 := hide (SHi.out.below C6.out (Nat.le_refl _)); clear hown6 hgrow6)
              | (refine wpList_append_texts (by rfl) _ _ (by rfl) wq.heap.size _ v6 _ (by rfl) O6.out V (out.drop kk) (by rfl) SH6.out (by first | omega | (simp only [List.length_cons, List.length_nil]; omega)) C6.out.size ?_; intro v7 w7 hown7 hgrow7; have O7 := hide hown7; have C7 := hide (C6.out.grown hgrow7 C6.out.size (fun r hr => (O6.out.lt r hr).1)); clear hown7 hgrow7)))
            go_roundw
            case rel => exact ⟨k + 1, out.take kk ++ [y.s.data.toList] ++ out.drop kk, v7, by omega, by go_num, rfl, text_final O7.out BQ.out.size (by simp), HIN.out.symm, HLN.out, BQ.out.trans (C7.out.mono BQ.out.size)⟩
            case measure => simp [intOf]; omega
    · obtain rfl : k = N := by omega
      have htk : (x.map ptV).take k = x.map ptV := List.take_of_length_le (by rw [List.length_map, ← HN.out]; exact Nat.le_refl _)
      have HF : Hid (SLst wr ov (namesP (x.map ptV))) := by
        show SLst _ _ _
        rw [← htk, ← HO.out]
        exact SLst.of_owns O.out
      clear O HO
      go_wp2
      go_ret2
      exact ⟨ov, rfl, HF.out, HB.out⟩
end Go.Proofs.YtldjiieckddhkaaGreatDoor
