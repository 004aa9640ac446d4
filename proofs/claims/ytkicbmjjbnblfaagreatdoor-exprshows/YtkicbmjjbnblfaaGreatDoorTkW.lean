/- The contract of expr.Tokens. -/
import Derived.Test.YtkicbmjjbnblfaaGreatDoorTkA
namespace Go.Proofs.YtkicbmjjbnblfaaGreatDoor
open Go.RowKit Go.Lib
def TokPost (w : World) (x : List Pv) (e : Ending) (w' : World) : Prop :=
  (∃ v L ex, e = .returned (.tuple #[v, .int .i64 0]) ∧ Lst w' v L ∧ well ex ∧ flat ex = x.map ptV ∧ dep ex ≤ 24 ∧ L.map tkV = showE ex false ∧ (∀ t ∈ L, t.at_ = 0) ∧ Below w.heap.size w w')
/-- a token that is made so has the place 0 -/
theorem inner_zero {op : Bool} {l : List Tv} (h : ∀ t ∈ l, t.at_ = 0) : ∀ t ∈ innerL op l, t.at_ = 0 := by
  unfold innerL
  intro t ht
  split at ht
  · rcases List.mem_append.1 ht with ht | ht
    · rw [List.mem_singleton.1 ht]; rfl
    · rcases List.mem_append.1 ht with ht | ht
      · exact h t ht
      · rw [List.mem_singleton.1 ht]; rfl
  · exact h t ht
theorem num_zero (n t : Int) : (numTok n t).at_ = 0 := by
  unfold numTok
  split
  · rfl
  · split <;> rfl
theorem show_zero (x : Pv) (vs : List Pc) (h : ∀ c ∈ vs, ∀ t ∈ c.1, t.at_ = 0) : ∀ t ∈ showL x vs, t.at_ = 0 := by
  unfold showL
  intro t ht
  split at ht
  · rw [List.mem_singleton.1 ht]; exact num_zero _ _
  · split at ht
    · rw [List.mem_singleton.1 ht]; rfl
    · split at ht
      · simp at ht
        rcases ht with rfl | rfl | rfl <;> rfl
      · split at ht
        · next v =>
          have hv := h v List.mem_cons_self
          split at ht
          · simp at ht
            rcases ht with rfl | rfl | ht | rfl
            · rfl
            · rfl
            · exact hv t ht
            · rfl
          · split at ht
            · simp at ht
              rcases ht with rfl | rfl | ht | rfl
              · rfl
              · rfl
              · exact hv t ht
              · rfl
            · rcases List.mem_append.1 ht with ht | ht
              · rw [List.mem_singleton.1 ht]; rfl
              · exact inner_zero hv t ht
        · next v v' =>
          rcases List.mem_append.1 ht with ht | ht
          · exact inner_zero (h v List.mem_cons_self) t ht
          · rcases List.mem_append.1 ht with ht | ht
            · rw [List.mem_singleton.1 ht]; rfl
            · exact inner_zero (h v' (List.mem_cons_of_mem _ List.mem_cons_self)) t ht
        · cases ht
theorem run_zero : ∀ (x : List Pv) (vs r : List Pc), runS x vs = some r → (∀ c ∈ vs, ∀ t ∈ c.1, t.at_ = 0) → ∀ c ∈ r, ∀ t ∈ c.1, t.at_ = 0
  | [], vs, r, h, hv => by
    injection h with h
    rw [← h]; exact hv
  | x :: l, vs, r, h, hv => by
    have h : (stepS x vs).bind (runS l) = some r := h
    unfold stepS at h
    split at h
    · refine run_zero l _ r h fun c hc => ?_
      rcases List.mem_append.1 hc with hc | hc
      · exact hv c (List.mem_of_mem_take hc)
      · rw [List.mem_singleton.1 hc]
        exact show_zero x _ fun c hc => hv c (List.mem_of_mem_drop hc)
    · cases h
theorem pcRow_form {w : World} {B : Nat} {pv : Value} {ps : List Pq} (h : PcRow w B pv ps) : (pv = .slice none 0 0 ∧ ps = []) ∨ ∃ g cap, pv = .slice (some ⟨g, 0, none⟩) ps.length cap ∧ ps.length ≤ cap ∧ cap ≤ maxLen ∧ B ≤ g ∧ g < w.heap.size := by
  rcases h.1.2 with ⟨hv, h0⟩ | ⟨g', cap', cur, hv, hb, hg, hn, hm, hc, ht⟩
  · exact .inl ⟨hv, List.eq_nil_of_length_eq_zero h0⟩
  · exact .inr ⟨g', cap', hv, hn, hm, hb, (Array.getElem?_eq_some_iff.1 hg).1⟩
theorem made_cells {W w5 : World} {z0 z1 : Value} (hb : Below (W.alloc (.cells #[z0, z1] 44)).heap.size (W.alloc (.cells #[z0, z1] 44)) w5) : w5.cell? ⟨W.heap.size, 0, none⟩ = some z0 ∧ w5.cell? ⟨W.heap.size, 1, none⟩ = some z1 ∧ ∀ j, w5.frozen? ⟨W.heap.size, j, none⟩ = false := by
  have hrow := (hb.block W.heap.size (by rw [World.size_alloc]; omega)).trans (heap_alloc_new W (.cells #[z0, z1] 44))
  exact ⟨Lib.cell_of_heap hrow 0, Lib.cell_of_heap hrow 1, fun j => Lib.frozen_of_heap hrow j⟩
theorem made_cells' {W w5 : World} {z0 z1 : Value} (hb : Below (W.alloc (.cells #[z0, z1] 44)).drew.heap.size (W.alloc (.cells #[z0, z1] 44)).drew w5) : w5.cell? ⟨W.heap.size, 0, none⟩ = some z0 ∧ w5.cell? ⟨W.heap.size, 1, none⟩ = some z1 ∧ ∀ j, w5.frozen? ⟨W.heap.size, j, none⟩ = false := by
  have hrow : w5.heap[W.heap.size]? = _ := (hb.block W.heap.size (by show _ < (W.alloc _).heap.size; rw [World.size_alloc]; omega)).trans (heap_alloc_new W (.cells #[z0, z1] 44))
  exact ⟨Lib.cell_of_heap hrow 0, Lib.cell_of_heap hrow 1, fun j => Lib.frozen_of_heap hrow j⟩
theorem Held.set2 {w W : World} (h : Held w W) {g : Nat} (hp : w.heap.size ≤ g) (u v : Value) : Held w ((W.setCell ⟨g, 0, none⟩ u).setCell ⟨g, 1, none⟩ v) := (h.setCell (p := ⟨g, 0, none⟩) hp u).setCell (p := ⟨g, 1, none⟩) hp v
theorem undrew {W w5 : World} (h : Below W.drew.heap.size W.drew w5) : Below W.heap.size W w5 := ⟨h.os, h.tape, h.output, h.size, h.block⟩
theorem in54 : (Tryz.prog.info? 44).map (fun i => (i.zero, i.size, i.bytes)) = some (some (.agg #[.slice none 0 0, .bool false]), 2, 32) := by kernel_rfl
theorem two_news (W : World) (u v : Value) : ∀ j x, ([u, v] : List Value)[j]? = some x → (W.alloc (.cells #[u, v] 44)).cell? ((⟨W.heap.size, 0, none⟩ : Addr).add j) = some x := fun j x hj => by
  have hh := Lib.cell_of_heap (heap_alloc_new W (.cells #[u, v] 44))
  rw [addr_add]
  match j, hj with
  | 0, hj => cases hj; exact hh 0
  | 1, hj => cases hj; exact hh 1
def sumP : List Pc → Nat
  | [] => 0
  | q :: l => q.1.length + sumP l
theorem sumP_mem {l : List Pc} {q : Pc} (h : q ∈ l) : q.1.length ≤ sumP l := by
  induction l with
  | nil => cases h
  | cons a l ih =>
    rcases List.mem_cons.1 h with rfl | h
    · show _ ≤ _ + _; omega
    · have := ih h; show _ ≤ _ + _; omega
theorem sumP_append (a b : List Pc) : sumP (a ++ b) = sumP a + sumP b := by
  induction a with
  | nil => rw [List.nil_append]; show _ = 0 + _; omega
  | cons q a ih => show _ + sumP (a ++ b) = _ + sumP a + _; rw [ih]; omega
theorem innerL_len (op : Bool) (l : List Tv) : (innerL op l).length ≤ l.length + 2 := by
  unfold innerL
  split
  · simp
  · omega
theorem showL_len (x : Pv) (vs : List Pc) : (showL x vs).length ≤ sumP vs + 5 := by
  unfold showL
  split
  · simp
  · split
    · simp
    · split
      · simp
      · match vs with
        | [] => exact Nat.zero_le _
        | [v] =>
          have h1 := innerL_len v.2 v.1
          show List.length (if x.k = 3 then _ else _) ≤ v.1.length + 0 + 5
          split
          · simp
          · split
            · simp
            · rw [List.length_append]; simp; omega
        | [v, v'] =>
          have h1 := innerL_len v.2 v.1
          have h2 := innerL_len v'.2 v'.1
          show (innerL v.2 v.1 ++ ([opTv x.n] ++ innerL v'.2 v'.1)).length ≤ v.1.length + (v'.1.length + 0) + 5
          rw [List.length_append, List.length_append]; simp; omega
        | _ :: _ :: _ :: _ => exact Nat.zero_le _
theorem sum_step (y : Pv) (vs : List Pc) (f : Nat) (b : Bool) : sumP (vs.take f ++ [(showL y (vs.drop f), b)]) ≤ sumP vs + 5 := by
  have h1 := showL_len y (vs.drop f)
  have h2 : sumP vs = sumP (vs.take f) + sumP (vs.drop f) := by rw [← sumP_append, List.take_append_drop]
  rw [sumP_append]
  show _ + ((showL y (vs.drop f)).length + 0) ≤ _
  omega
theorem run_step {x : List Pv} {k : Nat} {y : Pv} {vs : List Pc} {r : List Pc} (hy : x[k]? = some y) (h : runS (x.drop k) vs = some r) : takes (ptV y) ≤ vs.length ∧ runS (x.drop (k + 1)) (vs.take (vs.length - takes (ptV y)) ++ [(showL y (vs.drop (vs.length - takes (ptV y))), decide (y.k = 5))]) = some r := by
  obtain ⟨hi, he⟩ := List.getElem?_eq_some_iff.1 hy
  rw [List.drop_eq_getElem_cons hi, he] at h
  by_cases ht : takes (ptV y) ≤ vs.length
  · refine ⟨ht, ?_⟩
    rw [← h]
    exact (runS_cons (by unfold stepS; rw [if_pos ht])).symm
  · have : stepS y vs = none := by unfold stepS; rw [if_neg ht]
    have h2 : runS (y :: x.drop (k + 1)) vs = none := by show (stepS y vs).bind _ = none; rw [this]; rfl
    rw [h2] at h; cases h
set_option maxRecDepth 100000 in
set_option maxHeartbeats 3200000 in
theorem tokens_ok (v : Value) (x : List Pv) (w : World) (hL : PLst w v x) (hlen : x.length ≤ 4398046510976) (hg : Glo w) (hx : checkP (x.map ptV) = 0) : Calls Tryz.prog 5 #[v] w (TokPost w x) := by
  have c0 := check_any v x w hL hlen hg
  rw [hx] at c0
  obtain ⟨ex, c, hw1, hw2, hw3, hw4, hw5⟩ := run_check hx
  have HW := hide (And.intro hw1 (And.intro hw2 (And.intro hw3 hw4)))
  have HR := hide hw5
  have HZ := hide (run_zero x [] [c] hw5 (fun c hc => by cases hc) c List.mem_cons_self)
  obtain ⟨hx5, hmay⟩ := check_parts hx
  rw [List.length_map] at hx5
  have HM := hide hmay
  have HG := hide hg
  obtain ⟨a, b, off, cap, rfl, hA, hI⟩ := hL
  have HA := hide hA
  have HI := hide hI
  obtain ⟨N, hN⟩ : ∃ N, N = x.length := ⟨_, rfl⟩
  have HN := hide hN
  rw [← hN] at hx5 c0 ⊢
  have n5 : (N : Int) ≤ 500 := by omega
  clear hA hI hmay hN hlen hg hw1 hw2 hw3 hw4 hw5 hx
  go_enter Tryz.func5, Tryz.ntmps5
  go_wp2_with fail
  refine c0.mono ?_
  rintro e w0 ⟨rfl, hb0⟩
  have B0 := hide hb0
  clear c0 hb0
  go_wp2_with fail
  go_loopw [5, 17] (fun nv i wr => ∃ (k : Nat) (nv' : Value) (ps : List Pq), k ≤ N ∧ i = .int .i64 (k : Int) ∧ nv' = nv ∧ Hid (PcRow wr w.heap.size nv' ps ∧ runS (x.drop k) (ps.map (·.2)) = some [c] ∧ sumP (ps.map (·.2)) ≤ 5 * k ∧ ps.length ≤ k ∧ Below w.heap.size w wr)) (fun _ i _ => N - (intOf i).toNat)
  case atStart => exact ⟨0, .slice none 0 0, [], by omega, rfl, rfl, ⟨World.ownsRow_nil _ _ _ _, fun q hq => by cases hq⟩, HR.out, Nat.le_refl _, Nat.le_refl _, B0.out⟩
  case round =>
    clear B0
    obtain ⟨k, nv, ps, hk, rfl, rfl, hh⟩ := hrel
    by_cases hlt : k < N
    · have j1 : (k : Int) < (N : Int) := by omega
      have j0 : (0 : Int) ≤ (k : Int) := by omega
      obtain ⟨y, hy⟩ : ∃ y, x[k]? = some y := ⟨_, List.getElem?_eq_getElem (by rw [← HN.out]; exact hlt)⟩
      have HB := hide hh.out.2.2.2.2
      obtain ⟨hbw, rfl⟩ := HA.out (by rw [← HN.out]; omega)
      obtain ⟨q0, q1, q2, q3, q4⟩ := HI.out k y hy
      have d0 := (HB.out.cell (p := ⟨b, off + k * 5, none⟩) hbw).trans q0
      have d1 := (HB.out.cell (p := ⟨b, off + k * 5 + 1, none⟩) hbw).trans q1
      have d2 := (HB.out.cell (p := ⟨b, off + k * 5 + 2, none⟩) hbw).trans q2
      have d3 := (HB.out.cell (p := ⟨b, off + k * 5 + 3, none⟩) hbw).trans q3
      have d4 := (HB.out.cell (p := ⟨b, off + k * 5 + 4, none⟩) hbw).trans q4
      have HY := hide hy
      have co := fun W => operands_v y W
      clear q0 q1 q2 q3 q4 hy
      rcases pcRow_form hh.out.1 with ⟨rfl, rfl⟩ | ⟨g, cp, rfl, hcp, hcm, hBg, hgl⟩
      · obtain ⟨hst, hrun⟩ := run_step HY.out hh.out.2.1
        have ht0 : takes (ptV y) = 0 := Nat.le_zero.1 hst
        rw [ht0] at hrun co
        have HRun := hide hrun
        have HT := hide ht0
        clear hst hrun ht0
        go_wp2_with fail
        refine (co _).mono ?_
        rintro e w2 ⟨rfl, hb2⟩
        have B2 := hide hb2
        have hblk := fun j => Lib.cell_of_heap ((hb2.block wr.heap.size (by rw [World.size_alloc]; omega)).trans (heap_alloc_new wr _)) j
        have HK : Hid (∀ W, Held w2 W → (W.cell? ⟨wr.heap.size, 0, none⟩ = some (.int .i64 y.k) ∧ W.cell? ⟨wr.heap.size, 1, none⟩ = some (.int .i64 y.n) ∧ W.cell? ⟨wr.heap.size, 2, none⟩ = some (.int .i64 y.t) ∧ W.cell? ⟨wr.heap.size, 3, none⟩ = some (.string y.s) ∧ W.cell? ⟨wr.heap.size, 4, none⟩ = some (.string y.f)) ∧ Held w2 W) := fun W h => by
          have hl2 : wr.heap.size < w2.heap.size := by have := hb2.size; rw [World.size_alloc] at this; omega
          refine ⟨⟨?_, ?_, ?_, ?_, ?_⟩, h⟩
          · exact (h.cell (p := ⟨wr.heap.size, 0, none⟩) hl2).trans (hblk 0)
          · exact (h.cell (p := ⟨wr.heap.size, 1, none⟩) hl2).trans (hblk 1)
          · exact (h.cell (p := ⟨wr.heap.size, 2, none⟩) hl2).trans (hblk 2)
          · exact (h.cell (p := ⟨wr.heap.size, 3, none⟩) hl2).trans (hblk 3)
          · exact (h.cell (p := ⟨wr.heap.size, 4, none⟩) hl2).trans (hblk 4)
        have PR2 := hide ((hh.out.1.below ((Below.refl _ _).alloc (Nat.le_refl _) _)).below hb2)
        obtain ⟨L, hLL⟩ : ∃ L, L = showL y [] := ⟨_, rfl⟩
        have HLL := hide hLL
        have HS := hide hh.out.2.2.1
        have CSh : Hid (∀ W, Held w2 W → Calls Tryz.prog 18 #[.agg #[.int .i64 y.k, .int .i64 y.n, .int .i64 y.t, .string y.s, .string y.f], .slice none 0 0] W (RowPost W L)) := fun W h => by
          rw [HLL.out]
          exact show_any y (HM.out _ (List.mem_map_of_mem (List.mem_of_getElem? HY.out))) [] HT.out.symm _ W (fun h0 => absurd h0 (Nat.lt_irrefl 0)) (fun v hv => by cases hv) (((HG.out.on HB.out).on ((Below.refl _ _).alloc (Nat.le_refl _) _)).on hb2 |>.on h)
        have h0 : Held w2 w2 := Below.refl _ _
        clear co hb2 hblk hh hLL
        go_upto_region 9 with fail
        go_cut [9, 17] from 17 to 41 (fun p i wx => i = .int .i64 (k : Int) ∧ ∃ g9, p = .pointer (some ⟨g9, 0, none⟩) ∧ Hid (Made w2 g9 L (y.k == 5) wx))
        case first =>
          go_region_held3 (fun W => (W.cell? ⟨wr.heap.size, 0, none⟩ = some (.int .i64 y.k) ∧ W.cell? ⟨wr.heap.size, 1, none⟩ = some (.int .i64 y.n) ∧ W.cell? ⟨wr.heap.size, 2, none⟩ = some (.int .i64 y.t) ∧ W.cell? ⟨wr.heap.size, 3, none⟩ = some (.string y.s) ∧ W.cell? ⟨wr.heap.size, 4, none⟩ = some (.string y.f)) ∧ Held w2 W) (first | assumption | (refine HK.out _ ?_; (first | (focus ((repeat (first | (with_reducible assumption) | ((with_reducible apply and_right'); (with_reducible assumption)) | (with_reducible refine Held.alloc ?_ _) | (with_reducible refine Held.drew ?_) | ((with_reducible apply Held.call'); (focus (with_reducible assumption))))); done)) | ((with_reducible refine Held.set2 ?_ ?_ _ _); (focus (focus ((repeat (first | (with_reducible assumption) | ((with_reducible apply and_right'); (with_reducible assumption)) | (with_reducible refine Held.alloc ?_ _) | (with_reducible refine Held.drew ?_) | ((with_reducible apply Held.call'); (focus (with_reducible assumption))))); done))); (exact Nat.le_refl _))))) (first | (go_at_call 18; (with_reducible refine (CSh.out _ ?_).mono ?_); (focus (focus ((repeat (first | (with_reducible assumption) | ((with_reducible apply and_right'); (with_reducible assumption)) | (with_reducible refine Held.alloc ?_ _) | (with_reducible refine Held.drew ?_) | ((with_reducible apply Held.call'); (focus (with_reducible assumption))))); done))); rintro e w5 ⟨v5, rfl, ho5, hb5⟩; obtain ⟨a5, cap5, rfl, _⟩ := own_form3 ho5; first | (have mm := made_cells hb5; obtain ⟨m0, m1, m2⟩ := mm) | (have mm := made_cells' hb5; obtain ⟨m0, m1, m2⟩ := mm) | skip))
          all_goals
            go_wp2_with fail
            go_meet
            refine ⟨rfl, _, rfl, ?_⟩
            first
            | exact Made.last rfl (by (focus ((repeat (first | (with_reducible assumption) | ((with_reducible apply and_right'); (with_reducible assumption)) | (with_reducible refine Held.alloc ?_ _) | (with_reducible refine Held.drew ?_) | ((with_reducible apply Held.call'); (focus (with_reducible assumption))))); done))) hb5 ho5
            | exact Made.first rfl (by (focus ((repeat (first | (with_reducible assumption) | ((with_reducible apply and_right'); (with_reducible assumption)) | (with_reducible refine Held.alloc ?_ _) | (with_reducible refine Held.drew ?_) | ((with_reducible apply Held.call'); (focus (with_reducible assumption))))); done))) (undrew hb5) ho5
            | exact Made.first rfl (by (focus ((repeat (first | (with_reducible assumption) | ((with_reducible apply and_right'); (with_reducible assumption)) | (with_reducible refine Held.alloc ?_ _) | (with_reducible refine Held.drew ?_) | ((with_reducible apply Held.call'); (focus (with_reducible assumption))))); done))) hb5 ho5
        case rest =>
        obtain ⟨rfl, g9, rfl, hM⟩ := hcut
        clear CSh HK h0
        obtain ⟨v9, base, m0, m1, m2, m3, m4, m5⟩ := hM.out
        have OX : Hid (LstX wc none v9 L) := LstX.of_owns m2 (fun k hk => by cases hk)
        obtain ⟨a9, cap9, rfl, _⟩ := own_form3 m2
        have PR3 := hide (PR2.out.below m5)
        have OC : Hid (wc.ownsRow w.heap.size 44 2 (.slice none 0 0) 0 []) := World.ownsRow_nil _ _ _ _
        have B9 := hide m5
        obtain ⟨i0, hi, hz0, hz1, hz2⟩ := info_parts in54
        have hwz : w.heap.size ≤ wc.heap.size := by have h1 := HB.out.size; have h2 := B2.out.size; rw [World.size_alloc] at h2; have h3 := m5.size; omega
        obtain ⟨bo, hbo⟩ : ∃ bo, bo = (y.k == 5) := ⟨_, rfl⟩
        have HBO := hide hbo
        rw [← hbo] at m1
        generalize L.length = nL at *
        clear m2 m3 m4 m5 hM hbo d0 d1 d2 d3 d4
        go_wp2
        go_region_law ((refine step_append_lies _ (by rfl) _ _ _ (by rfl) w.heap.size 44 i0 _ 2 32 Tryz.underlying40 hi hz0 hz1 hz2 rfl (by omega) (.slice none 0 0) 0 _ (by rfl) (by exact OC.out.alloc _) ⟨wc.heap.size, 0, none⟩ 1 1 [.slice a9 nL cap9, .bool bo] (by rfl) (by rfl) (two_news wc _ _) (by simp [Value.oneCell']) (by omega) (by unfold maxLen; omega) (by omega) (by simp; omega) (wc.heap.size + 1) (by simp) ?_; intro gg cap' w7 hown7 hgrow7 hat7 hlt7; have O7 := hide hown7; have G7 := hide hgrow7; have A7 := hide hat7; clear hown7 hgrow7 hat7 hlt7))
        all_goals
          have g7 : (wc.alloc (.cells #[.slice a9 nL cap9, .bool bo] 44)).grownBy w7 none := ⟨G7.out.os, G7.out.tape, G7.out.output, G7.out.size, G7.out.block⟩
          have R7 : Hid (PcRow w7 w.heap.size (.slice (some ⟨gg, 0, none⟩) (0 + 1) cap') ([(.slice a9 nL cap9, (L, bo))])) := by
            refine PcRow.push (f := 0) (PR3.out.below ((Below.refl _ _).alloc (Nat.le_refl _) _)) (Nat.le_refl _) (OX.out.below ((Below.refl _ _).alloc (Nat.le_refl _) _)) g7 ?_ O7.out
            rcases A7.out with h | h
            · cases h
            · exact .inr (by rw [World.size_alloc]; exact h)
          have B7 : Hid (Below w.heap.size w w7) := by
            have hb := ((((HB.out.alloc HB.out.size _).trans (B2.out.mono (by rw [World.size_alloc]; have := HB.out.size; omega))).trans (B9.out.mono (by have h1 := HB.out.size; have h2 := B2.out.size; rw [World.size_alloc] at h2; omega))).alloc hwz (.cells #[.slice a9 nL cap9, .bool bo] 44))
            exact hb.grown g7 (by rw [World.size_alloc]; omega) (fun r hr => by cases hr)
          have RL : Hid (runS (x.drop (k + 1)) ([(Value.slice a9 nL cap9, (L, bo))].map (·.2)) = some [c] ∧ sumP ([(Value.slice a9 nL cap9, (L, bo))].map (·.2)) ≤ 5 * (k + 1) ∧ ([(Value.slice a9 nL cap9, (L, bo))] : List Pq).length ≤ k + 1) := by
            have e0 : [(Value.slice a9 nL cap9, (L, bo))].map (·.2) = [(showL y [], decide (y.k = 5))] := by
              rw [HLL.out, HBO.out]; rfl
            refine ⟨by rw [e0]; exact HRun.out, ?_, by show 1 ≤ _; omega⟩
            rw [e0]
            have h := showL_len y []
            show (showL y []).length + 0 ≤ _
            have h' : sumP [] = 0 := rfl
            omega
          clear g7 OC OX O7 G7 A7 PR3 PR2 HS B9 hi hz0 hz1 hz2 HRun HLL HBO
          go_wp2
          go_roundw
          case rel => exact ⟨k + 1, _, _, by omega, by go_num, rfl, R7.out, RL.out.1, RL.out.2.1, RL.out.2.2, B7.out⟩
          case measure => simp [intOf]; omega
      · obtain ⟨hst, hrun⟩ := run_step HY.out hh.out.2.1
        rw [List.length_map] at hst hrun
        obtain ⟨n, hn⟩ : ∃ n, n = ps.length := ⟨_, rfl⟩
        obtain ⟨t, ht⟩ : ∃ t, t = takes (ptV y) := ⟨_, rfl⟩
        rw [← hn, ← ht] at hst hrun
        rw [← hn] at hcp ⊢
        rw [← ht] at co
        obtain ⟨f, hf⟩ : ∃ f, f = n - t := ⟨_, rfl⟩
        rw [← hf] at hrun
        have HRun := hide hrun
        have HNn := hide hn
        have HT := hide ht
        have HF := hide hf
        have HPK : Hid (n ≤ k) := by show n ≤ k; rw [hn]; exact hh.out.2.2.2.1
        have hnk : n ≤ 500 := by have := HPK.out; omega
        have e1 : wrap64 ((n : Int) - (t : Int)) = (f : Int) := by unfold wrap64; omega
        have e2 : (f : Int) ≤ (n : Int) := by omega
        have e3 : (0 : Int) ≤ (f : Int) := by omega
        have e4 : (n : Int) ≤ (cp : Int) := by omega
        have e5 : (cp : Int) ≤ 9223372036854775807 := by unfold maxLen at hcm; omega
        have e6 : (n : Int) ≤ 500 := by omega
        have HX := hide (And.intro hcp (And.intro hBg hgl))
        have HST := hide hst
        clear hn ht hf hrun hcm hcp hBg hgl hst
        go_wp2_with fail
        refine (co _).mono ?_
        rintro e w2 ⟨rfl, hb2⟩
        have B2 := hide hb2
        have hblk := fun j => Lib.cell_of_heap ((hb2.block wr.heap.size (by rw [World.size_alloc]; omega)).trans (heap_alloc_new wr _)) j
        have HK : Hid (∀ W, Held w2 W → (W.cell? ⟨wr.heap.size, 0, none⟩ = some (.int .i64 y.k) ∧ W.cell? ⟨wr.heap.size, 1, none⟩ = some (.int .i64 y.n) ∧ W.cell? ⟨wr.heap.size, 2, none⟩ = some (.int .i64 y.t) ∧ W.cell? ⟨wr.heap.size, 3, none⟩ = some (.string y.s) ∧ W.cell? ⟨wr.heap.size, 4, none⟩ = some (.string y.f)) ∧ Held w2 W) := fun W h => by
          have hl2 : wr.heap.size < w2.heap.size := by have := hb2.size; rw [World.size_alloc] at this; omega
          refine ⟨⟨?_, ?_, ?_, ?_, ?_⟩, h⟩
          · exact (h.cell (p := ⟨wr.heap.size, 0, none⟩) hl2).trans (hblk 0)
          · exact (h.cell (p := ⟨wr.heap.size, 1, none⟩) hl2).trans (hblk 1)
          · exact (h.cell (p := ⟨wr.heap.size, 2, none⟩) hl2).trans (hblk 2)
          · exact (h.cell (p := ⟨wr.heap.size, 3, none⟩) hl2).trans (hblk 3)
          · exact (h.cell (p := ⟨wr.heap.size, 4, none⟩) hl2).trans (hblk 4)
        have PR2 := hide ((hh.out.1.below ((Below.refl _ _).alloc (Nat.le_refl _) _)).below hb2)
        rw [← HNn.out] at PR2
        obtain ⟨L, hLL⟩ : ∃ L, L = showL y ((ps.map (·.2)).drop f) := ⟨_, rfl⟩
        have HLL := hide hLL
        have HS := hide hh.out.2.2.1
        have CSh : Hid (∀ W, Held w2 W → Calls Tryz.prog 18 #[.agg #[.int .i64 y.k, .int .i64 y.n, .int .i64 y.t, .string y.s, .string y.f], .slice (if cp = f then some ⟨g, 0, none⟩ else some ⟨g, f * 2, none⟩) (n - f) (cp - f)] W (RowPost W L)) := fun W h => by
          have hW := PR2.out.below h
          have hN := HNn.out
          have hF := HF.out
          have hT := HT.out
          have hX1 := HX.out.1
          have hst := HST.out
          rw [HLL.out]
          refine show_any y (HM.out _ (List.mem_map_of_mem (List.mem_of_getElem? HY.out))) _ ?_ _ W (fun h0 => ?_) (fun v hv => ?_) (((HG.out.on HB.out).on ((Below.refl _ _).alloc (Nat.le_refl _) _)).on hb2 |>.on h)
          · rw [List.length_drop, List.length_map, ← hN, ← hT]; omega
          · rw [List.length_drop, List.length_map, ← hN] at h0
            rw [if_neg (by omega)]
            have hV := PcRow.vsAt (g := g) (cap := cp) (by rw [← hN]; exact hW) f (by omega)
            rw [← hN, List.map_drop] at hV
            exact hV
          · have h1 := sumP_mem (List.mem_of_mem_drop hv)
            have h2 := HS.out
            omega
        have h0 : Held w2 w2 := Below.refl _ _
        clear co hb2 hblk hh hLL
        go_upto_region 9 with fail
        go_cut [8, 9, 17] from 17 to 41 (fun s8 p i wx => s8 = .int .i64 (f : Int) ∧ i = .int .i64 (k : Int) ∧ ∃ g9, p = .pointer (some ⟨g9, 0, none⟩) ∧ Hid (Made w2 g9 L (y.k == 5) wx))
        case first =>
          by_cases hcf : cp = f
          · subst hcf
            have CS1 := CSh.out
            simp only [if_true, Nat.sub_self] at CS1
            have CS2 := hide CS1
            clear CS1 CSh
            go_region_held3 (fun W => (W.cell? ⟨wr.heap.size, 0, none⟩ = some (.int .i64 y.k) ∧ W.cell? ⟨wr.heap.size, 1, none⟩ = some (.int .i64 y.n) ∧ W.cell? ⟨wr.heap.size, 2, none⟩ = some (.int .i64 y.t) ∧ W.cell? ⟨wr.heap.size, 3, none⟩ = some (.string y.s) ∧ W.cell? ⟨wr.heap.size, 4, none⟩ = some (.string y.f)) ∧ Held w2 W) (first | assumption | (refine HK.out _ ?_; (first | (focus ((repeat (first | (with_reducible assumption) | ((with_reducible apply and_right'); (with_reducible assumption)) | (with_reducible refine Held.alloc ?_ _) | (with_reducible refine Held.drew ?_) | ((with_reducible apply Held.call'); (focus (with_reducible assumption))))); done)) | ((with_reducible refine Held.set2 ?_ ?_ _ _); (focus (focus ((repeat (first | (with_reducible assumption) | ((with_reducible apply and_right'); (with_reducible assumption)) | (with_reducible refine Held.alloc ?_ _) | (with_reducible refine Held.drew ?_) | ((with_reducible apply Held.call'); (focus (with_reducible assumption))))); done))); (exact Nat.le_refl _))))) (first | (go_at_call 18; (with_reducible refine (CS2.out _ ?_).mono ?_); (focus (focus ((repeat (first | (with_reducible assumption) | ((with_reducible apply and_right'); (with_reducible assumption)) | (with_reducible refine Held.alloc ?_ _) | (with_reducible refine Held.drew ?_) | ((with_reducible apply Held.call'); (focus (with_reducible assumption))))); done))); rintro e w5 ⟨v5, rfl, ho5, hb5⟩; obtain ⟨a5, cap5, rfl, _⟩ := own_form3 ho5; first | (have mm := made_cells hb5; obtain ⟨m0, m1, m2⟩ := mm) | (have mm := made_cells' hb5; obtain ⟨m0, m1, m2⟩ := mm) | skip))
            all_goals
              go_wp2_with fail
              go_meet
              refine ⟨rfl, rfl, _, rfl, ?_⟩
              first
              | exact Made.last rfl (by (focus ((repeat (first | (with_reducible assumption) | ((with_reducible apply and_right'); (with_reducible assumption)) | (with_reducible refine Held.alloc ?_ _) | (with_reducible refine Held.drew ?_) | ((with_reducible apply Held.call'); (focus (with_reducible assumption))))); done))) hb5 ho5
              | exact Made.first rfl (by (focus ((repeat (first | (with_reducible assumption) | ((with_reducible apply and_right'); (with_reducible assumption)) | (with_reducible refine Held.alloc ?_ _) | (with_reducible refine Held.drew ?_) | ((with_reducible apply Held.call'); (focus (with_reducible assumption))))); done))) (undrew hb5) ho5
              | exact Made.first rfl (by (focus ((repeat (first | (with_reducible assumption) | ((with_reducible apply and_right'); (with_reducible assumption)) | (with_reducible refine Held.alloc ?_ _) | (with_reducible refine Held.drew ?_) | ((with_reducible apply Held.call'); (focus (with_reducible assumption))))); done))) hb5 ho5
          · have CS1 := CSh.out
            simp only [if_neg hcf] at CS1
            have CS2 := hide CS1
            clear CS1 CSh
            go_region_held3 (fun W => (W.cell? ⟨wr.heap.size, 0, none⟩ = some (.int .i64 y.k) ∧ W.cell? ⟨wr.heap.size, 1, none⟩ = some (.int .i64 y.n) ∧ W.cell? ⟨wr.heap.size, 2, none⟩ = some (.int .i64 y.t) ∧ W.cell? ⟨wr.heap.size, 3, none⟩ = some (.string y.s) ∧ W.cell? ⟨wr.heap.size, 4, none⟩ = some (.string y.f)) ∧ Held w2 W) (first | assumption | (refine HK.out _ ?_; (first | (focus ((repeat (first | (with_reducible assumption) | ((with_reducible apply and_right'); (with_reducible assumption)) | (with_reducible refine Held.alloc ?_ _) | (with_reducible refine Held.drew ?_) | ((with_reducible apply Held.call'); (focus (with_reducible assumption))))); done)) | ((with_reducible refine Held.set2 ?_ ?_ _ _); (focus (focus ((repeat (first | (with_reducible assumption) | ((with_reducible apply and_right'); (with_reducible assumption)) | (with_reducible refine Held.alloc ?_ _) | (with_reducible refine Held.drew ?_) | ((with_reducible apply Held.call'); (focus (with_reducible assumption))))); done))); (exact Nat.le_refl _))))) (first | (go_at_call 18; (with_reducible refine (CS2.out _ ?_).mono ?_); (focus (focus ((repeat (first | (with_reducible assumption) | ((with_reducible apply and_right'); (with_reducible assumption)) | (with_reducible refine Held.alloc ?_ _) | (with_reducible refine Held.drew ?_) | ((with_reducible apply Held.call'); (focus (with_reducible assumption))))); done))); rintro e w5 ⟨v5, rfl, ho5, hb5⟩; obtain ⟨a5, cap5, rfl, _⟩ := own_form3 ho5; first | (have mm := made_cells hb5; obtain ⟨m0, m1, m2⟩ := mm) | (have mm := made_cells' hb5; obtain ⟨m0, m1, m2⟩ := mm) | skip))
            all_goals
              go_wp2_with fail
              go_meet
              refine ⟨rfl, rfl, _, rfl, ?_⟩
              first
              | exact Made.last rfl (by (focus ((repeat (first | (with_reducible assumption) | ((with_reducible apply and_right'); (with_reducible assumption)) | (with_reducible refine Held.alloc ?_ _) | (with_reducible refine Held.drew ?_) | ((with_reducible apply Held.call'); (focus (with_reducible assumption))))); done))) hb5 ho5
              | exact Made.first rfl (by (focus ((repeat (first | (with_reducible assumption) | ((with_reducible apply and_right'); (with_reducible assumption)) | (with_reducible refine Held.alloc ?_ _) | (with_reducible refine Held.drew ?_) | ((with_reducible apply Held.call'); (focus (with_reducible assumption))))); done))) (undrew hb5) ho5
              | exact Made.first rfl (by (focus ((repeat (first | (with_reducible assumption) | ((with_reducible apply and_right'); (with_reducible assumption)) | (with_reducible refine Held.alloc ?_ _) | (with_reducible refine Held.drew ?_) | ((with_reducible apply Held.call'); (focus (with_reducible assumption))))); done))) hb5 ho5
        case rest =>
        obtain ⟨rfl, rfl, g9, rfl, hM⟩ := hcut
        clear CSh HK h0
        obtain ⟨v9, base, m0, m1, m2, m3, m4, m5⟩ := hM.out
        have OX : Hid (LstX wc (some g) v9 L) := LstX.of_owns m2 (fun k hk => by cases hk; have := HX.out.2.2; have := B2.out.size; rw [World.size_alloc] at this; omega)
        obtain ⟨a9, cap9, rfl, _⟩ := own_form3 m2
        have PR3 := hide (PR2.out.below m5)
        have hcut2 := PcRow.cut (g := g) (cap := cp) (by rw [← HNn.out]; exact PR3.out) f (by have := HF.out; have := HNn.out; omega)
        have OC := hide hcut2
        have B9 := hide m5
        obtain ⟨i0, hi, hz0, hz1, hz2⟩ := info_parts in54
        have hwz : w.heap.size ≤ wc.heap.size := by have h1 := HB.out.size; have h2 := B2.out.size; rw [World.size_alloc] at h2; have h3 := m5.size; omega
        have hfc : f ≤ cp := by have := HF.out; have := HX.out.1; omega
        have hf5 : f ≤ 500 := by have := HF.out; omega
        obtain ⟨bo, hbo⟩ : ∃ bo, bo = (y.k == 5) := ⟨_, rfl⟩
        have HBO := hide hbo
        rw [← hbo] at m1
        generalize L.length = nL at *
        clear hcut2 m2 m3 m4 m5 hM hbo d0 d1 d2 d3 d4
        go_wp2
        go_region_law ((refine step_append_lies _ (by rfl) _ _ _ (by rfl) w.heap.size 44 i0 _ 2 32 Tryz.underlying40 hi hz0 hz1 hz2 rfl (by omega) (.slice (some ⟨g, 0, none⟩) f cp) f _ (by rfl) (by exact OC.out.alloc _) ⟨wc.heap.size, 0, none⟩ 1 1 [.slice a9 nL cap9, .bool bo] (by rfl) (by rfl) (two_news wc _ _) (by simp [Value.oneCell']) (by omega) (by unfold maxLen; omega) (by omega) (by simp; omega) (wc.heap.size + 1) (by simp) ?_; intro gg cap' w7 hown7 hgrow7 hat7 hlt7; have O7 := hide hown7; have G7 := hide hgrow7; have A7 := hide hat7; clear hown7 hgrow7 hat7 hlt7))
        all_goals
          have g7 : (wc.alloc (.cells #[.slice a9 nL cap9, .bool bo] 44)).grownBy w7 (some g) := ⟨G7.out.os, G7.out.tape, G7.out.output, G7.out.size, G7.out.block⟩
          have R7 : Hid (PcRow w7 w.heap.size (.slice (some ⟨gg, 0, none⟩) (f + 1) cap') (ps.take f ++ [(.slice a9 nL cap9, (L, bo))])) := by
            refine PcRow.push (PR3.out.below ((Below.refl _ _).alloc (Nat.le_refl _) _)) (by have := HF.out; have := HNn.out; omega) (OX.out.below ((Below.refl _ _).alloc (Nat.le_refl _) _)) g7 ?_ O7.out
            rcases A7.out with h | h
            · exact .inl h
            · exact .inr (by rw [World.size_alloc]; exact h)
          have B7 : Hid (Below w.heap.size w w7) := by
            have hb := ((((HB.out.alloc HB.out.size _).trans (B2.out.mono (by rw [World.size_alloc]; have := HB.out.size; omega))).trans (B9.out.mono (by have h1 := HB.out.size; have h2 := B2.out.size; rw [World.size_alloc] at h2; omega))).alloc hwz (.cells #[.slice a9 nL cap9, .bool bo] 44))
            exact hb.grown g7 (by rw [World.size_alloc]; omega) (fun r hr => by cases hr; exact HX.out.2.1)
          have RL : Hid (runS (x.drop (k + 1)) ((ps.take f ++ [(Value.slice a9 nL cap9, (L, bo))]).map (·.2)) = some [c] ∧ sumP ((ps.take f ++ [(Value.slice a9 nL cap9, (L, bo))]).map (·.2)) ≤ 5 * (k + 1) ∧ (ps.take f ++ [(Value.slice a9 nL cap9, (L, bo))]).length ≤ k + 1) := by
            have e0 : (ps.take f ++ [(Value.slice a9 nL cap9, (L, bo))]).map (·.2) = (ps.map (·.2)).take f ++ [(showL y ((ps.map (·.2)).drop f), decide (y.k = 5))] := by
              rw [List.map_append, List.map_take, HLL.out, HBO.out]; rfl
            have hs := HS.out
            refine ⟨by rw [e0]; exact HRun.out, ?_, ?_⟩
            · rw [e0]
              have := sum_step y (ps.map (·.2)) f (decide (y.k = 5))
              omega
            · rw [List.length_append, List.length_take]
              have := HPK.out
              have := HF.out
              have := HNn.out
              show _ + 1 ≤ _
              omega
          clear g7 OC OX O7 G7 A7 PR3 PR2 HS B9 hi hz0 hz1 hz2 HRun HLL HBO
          go_wp2
          go_roundw
          case rel => exact ⟨k + 1, _, _, by omega, by go_num, rfl, R7.out, RL.out.1, RL.out.2.1, RL.out.2.2, B7.out⟩
          case measure => simp [intOf]; omega
    · obtain rfl : k = N := by omega
      have hr := hh.out.2.1
      rw [List.drop_of_length_le (by rw [← HN.out]; exact Nat.le_refl _)] at hr
      obtain ⟨q, rfl, hq⟩ : ∃ q, ps = [q] ∧ q.2 = c := by
        have hr' : ps.map (·.2) = [c] := Option.some.inj hr
        match ps, hr' with
        | [q], h => exact ⟨q, rfl, by simpa using h⟩
      have HP := hide hh.out.1
      have HB := hide hh.out.2.2.2.2
      rcases pcRow_form HP.out with ⟨_, h⟩ | ⟨g, cp, rfl, hcp, _, _, hgl⟩
      · cases h
      · obtain ⟨vb, vo, vc, hv1, _, _, hv4⟩ := HP.out.vsAt 0 (Nat.zero_le _)
        have hc0 : wr.cell? ⟨g, 0, none⟩ = some q.1 := HP.out.1.cellAt 0 (by show 0 < 1 * 2; omega)
        have hX := HP.out.2 q (by simp)
        have HL := hide hX.lst
        have HF : Hid (TokPost w x (.returned (.tuple #[q.1, .int .i64 0])) wr) := ⟨q.1, q.2.1, ex, rfl, HL.out, HW.out.1, HW.out.2.1, HW.out.2.2.1, by rw [hq]; exact HW.out.2.2.2.1, by rw [hq]; exact HZ.out, HB.out⟩
        obtain ⟨a9, b9, off9, cap9, hq9, _, _⟩ := hX
        rw [hq9] at hc0 HF
        have i1 : (1 : Int) ≤ (cp : Int) := by simp at hcp; omega
        generalize q.2.1.length = nq at *
        clear hr hq HP HB HL hh hv1 hv4 hq9
        go_wp2
        go_ret2
        exact HF.out
end Go.Proofs.YtkicbmjjbnblfaaGreatDoor
