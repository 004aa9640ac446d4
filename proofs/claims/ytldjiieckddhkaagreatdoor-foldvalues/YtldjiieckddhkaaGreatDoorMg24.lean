/- RkW | SqW -/
import Derived.Test.YtldjiieckddhkaaGreatDoorMg23
import Derived.Test.YtldjiieckddhkaaGreatDoorMg21
namespace Go.Proofs.YtldjiieckddhkaaGreatDoor
open Go.RowKit Go.Sort
structure RkS (w : World) (y : Pv) (W : World) : Prop where
  part : W.heap[w.heap.size]? = some (.cells #[.int .i64 y.k, .int .i64 y.n, .int .i64 y.t, .string y.s, .string y.f] 38)
  res : W.heap[w.heap.size + 1]? = some (.cells #[.int .i64 0, .int .i64 0, .int .i64 0, .string ⟨#[]⟩, .string ⟨#[]⟩] 38)
  below : Below w.heap.size w W
theorem RkS.on {w W W' : World} {y : Pv} (h : RkS w y W) (hb : Below W.heap.size W W') : RkS w y W' :=
  ⟨(hb.block _ (Array.getElem?_eq_some_iff.1 h.part).1).trans h.part, (hb.block _ (Array.getElem?_eq_some_iff.1 h.res).1).trans h.res, h.below.trans (hb.mono h.below.size)⟩
theorem RkS.set {w W : World} {y : Pv} (h : RkS w y W) {M j : Nat} (hM : w.heap.size + 2 ≤ M) (u : Value) : RkS w y (W.setCell ⟨M, j, none⟩ u) :=
  ⟨(Below.heap_setCell W ⟨M, j, none⟩ u _ (by show w.heap.size ≠ M; omega)).trans h.part, (Below.heap_setCell W ⟨M, j, none⟩ u _ (by show w.heap.size + 1 ≠ M; omega)).trans h.res, h.below.setCell (p := ⟨M, j, none⟩) (by show w.heap.size ≤ M; omega) _⟩
theorem RkS.cells {w W : World} {y : Pv} (h : RkS w y W) : W.cell? ⟨w.heap.size, 0, none⟩ = some (.int .i64 y.k) ∧ W.cell? ⟨w.heap.size, 1, none⟩ = some (.int .i64 y.n) ∧ W.cell? ⟨w.heap.size, 2, none⟩ = some (.int .i64 y.t) := by
  refine ⟨?_, ?_, ?_⟩ <;> (rw [Lib.cell_of_heap h.part]; rfl)
theorem RkS.zero {w W : World} {y : Pv} (h : RkS w y W) : W.cell? ⟨w.heap.size + 1, 0, none⟩ = some (.int .i64 0) ∧ W.cell? ⟨w.heap.size + 1, 1, none⟩ = some (.int .i64 0) ∧ W.cell? ⟨w.heap.size + 1, 2, none⟩ = some (.int .i64 0) ∧ W.cell? ⟨w.heap.size + 1, 3, none⟩ = some (.string ⟨#[]⟩) ∧ W.cell? ⟨w.heap.size + 1, 4, none⟩ = some (.string ⟨#[]⟩) ∧ ∀ j, W.frozen? ⟨w.heap.size + 1, j, none⟩ = false := by
  refine ⟨?_, ?_, ?_, ?_, ?_, fun j => Lib.frozen_of_heap h.res j⟩ <;> (rw [Lib.cell_of_heap h.res]; rfl)
theorem set5 {w0 w : World} {g : Nat} (h : Below w0.heap.size w0 w) (hg : w0.heap.size ≤ g) (a b c d e : Value) : Below w0.heap.size w0 (((((w.setCell ⟨g, 0, none⟩ a).setCell ⟨g, 1, none⟩ b).setCell ⟨g, 2, none⟩ c).setCell ⟨g, 3, none⟩ d).setCell ⟨g, 4, none⟩ e) :=
  ((((h.setCell (p := ⟨g, 0, none⟩) hg _).setCell (p := ⟨g, 1, none⟩) hg _).setCell (p := ⟨g, 2, none⟩) hg _).setCell (p := ⟨g, 3, none⟩) hg _).setCell (p := ⟨g, 4, none⟩) hg _
structure RkX (w : World) (y : Pv) (M : Nat) (n t : Int) (W : World) : Prop extends RkS w y W where
  over : w.heap.size + 2 ≤ M
  made : W.heap[M]? = some (.cells #[.int .i64 1, .int .i64 n, .int .i64 t, .string ⟨#[]⟩, .string ⟨#[]⟩] 38)
theorem RkX.on {w W W' : World} {y : Pv} {M : Nat} {n t : Int} (h : RkX w y M n t W) (hb : Below W.heap.size W W') : RkX w y M n t W' :=
  ⟨h.toRkS.on hb, h.over, (hb.block _ (Array.getElem?_eq_some_iff.1 h.made).1).trans h.made⟩
theorem RkX.num {w W : World} {y : Pv} {M : Nat} {n t : Int} (h : RkX w y M n t W) (n' : Int) : RkX w y M n' t (W.setCell ⟨M, 1, none⟩ (.int .i64 n')) :=
  ⟨h.toRkS.set h.over _, h.over, heap_setCell_same W M _ _ 38 _ h.made⟩
theorem RkX.typ {w W : World} {y : Pv} {M : Nat} {n t : Int} (h : RkX w y M n t W) (t' : Int) : RkX w y M n t' (W.setCell ⟨M, 2, none⟩ (.int .i64 t')) :=
  ⟨h.toRkS.set h.over _, h.over, heap_setCell_same W M _ _ 38 _ h.made⟩
theorem RkX.cellsM {w W : World} {y : Pv} {M : Nat} {n t : Int} (h : RkX w y M n t W) : W.cell? ⟨M, 0, none⟩ = some (.int .i64 1) ∧ W.cell? ⟨M, 1, none⟩ = some (.int .i64 n) ∧ W.cell? ⟨M, 2, none⟩ = some (.int .i64 t) ∧ W.cell? ⟨M, 3, none⟩ = some (.string ⟨#[]⟩) ∧ W.cell? ⟨M, 4, none⟩ = some (.string ⟨#[]⟩) ∧ ∀ j, W.frozen? ⟨M, j, none⟩ = false := by
  refine ⟨?_, ?_, ?_, ?_, ?_, fun j => Lib.frozen_of_heap h.made j⟩ <;> (rw [Lib.cell_of_heap h.made]; rfl)
def RkN (w : World) (y : Pv) (M : Nat) (t : Int) (W : World) : Prop := ∃ n, RkX w y M n t W
theorem takes_six {p : Pt} (h : p.kind = 6) : takes p = 1 := by unfold takes; simp [h]
def RkT (w : World) (y : Pv) (M : Nat) (W : World) : Prop := ∃ t, RkX w y M 0 t W
def opN (op : Int) : List Pv → Int × Int
  | [a] => Four.oneN op a.t a.n
  | a :: b :: _ => Four.twoN op a.t a.n b.n
  | [] => (0, 0)
theorem operN {op : Int} {v : Value} {x : List Pv} {w : World} (hL : PLst w v x) (h12 : x.length = 1 ∨ x.length = 2) (hg : Glo w) :
    Calls Tryz.prog 93 #[.int .i64 op, v] w fun e w' => e = .returned (.tuple #[.int .i64 (opN op x).1, .int .i64 (opN op x).2]) ∧ Below w.heap.size w w' :=
  (operated_any op v x w hL h12 hg).mono fun e w' ⟨h1, h2, hb⟩ => ⟨by
    rcases h12 with h | h
    · match x, h with | [a], _ => exact h1 a rfl
    · match x, h with | [a, b], _ => exact h2 a b rfl, hb⟩
theorem takes_five {p : Pt} (h : p.kind = 5) : takes p = 1 ∨ takes p = 2 := by unfold takes; simp [h]; omega
def RkOut (o : Option Pt) (e : Ending) : Prop := match o with
  | some q => e = .returned (.tuple #[.agg #[.int .i64 1, .int .i64 q.n, .int .i64 q.t, .string ⟨#[]⟩, .string ⟨#[]⟩], .bool true])
  | none => ∃ z : Pv, e = .returned (.tuple #[.agg #[.int .i64 z.k, .int .i64 z.n, .int .i64 z.t, .string z.s, .string z.f], .bool false])
set_option maxRecDepth 100000 in
set_option maxHeartbeats 6400000 in
theorem reckoned_any (y : Pv) (v : Value) (on : List Pv) (w : World) (hX : PLst w v on) (hm : mayP (ptV y) = true) (hn : on.length = takes (ptV y)) (hg : Glo w) :
    Calls Tryz.prog 52 #[.agg #[.int .i64 y.k, .int .i64 y.n, .int .i64 y.t, .string y.s, .string y.f], v] w fun e w' => RkOut (reckP (ptV y) (on.map ptV)) e ∧ Below w.heap.size w w' := by
  obtain ⟨a, b, off, cap, rfl, hA, hI⟩ := hX
  have h2 : on.length ≤ 2 := by rw [hn]; exact takes_le _
  have HRP : Hid (reckP (ptV y) (on.map ptV) = reckP (ptV y) (on.map ptV)) := rfl
  have HA := hide hA
  have HI := hide hI
  have HG := hide hg
  have HNT := hide hn
  have HMY := hide hm
  obtain ⟨N, hN⟩ : ∃ N, N = on.length := ⟨_, rfl⟩
  have HN := hide hN
  rw [← hN] at h2 ⊢
  have n5 : (N : Int) ≤ 2 := by omega
  have n0 : (0 : Int) ≤ (N : Int) := by omega
  clear hN hA hI hg hn hm HRP
  have R0 : Hid (RkS w y ((w.alloc (.cells #[.int .i64 y.k, .int .i64 y.n, .int .i64 y.t, .string y.s, .string y.f] 38)).alloc (.cells #[.int .i64 0, .int .i64 0, .int .i64 0, .string ⟨#[]⟩, .string ⟨#[]⟩] 38))) :=
    ⟨by rw [Lib.alloc_old _ _ _ (by simp)]; exact heap_alloc_new w _, by
      have := heap_alloc_new (w.alloc (.cells #[.int .i64 y.k, .int .i64 y.n, .int .i64 y.t, .string y.s, .string y.f] 38)) (.cells #[.int .i64 0, .int .i64 0, .int .i64 0, .string ⟨#[]⟩, .string ⟨#[]⟩] 38)
      rwa [World.size_alloc] at this, ((Below.refl w.heap.size w).alloc (Nat.le_refl _) _).alloc (by simp) _⟩
  go_enter Tryz.func52, Tryz.ntmps52
  go_wp2_with fail
  go_loopw [12] (fun i wr => ∃ k : Nat, k ≤ N ∧ i = .int .i64 (k : Int) ∧ Hid ((∀ p ∈ on.take k, p.k = 1) ∧ RkS w y wr)) (fun i _ => N - (intOf i).toNat)
  case atStart => exact ⟨0, by omega, rfl, fun p hp => by simp at hp, R0.out⟩
  case round =>
    clear R0
    obtain ⟨k, hk, rfl, hh⟩ := hrel
    have HM := hide hh.out.1
    have HR := hide hh.out.2
    clear hh
    have zz : w.heap.size + 1 < wr.heap.size := (Array.getElem?_eq_some_iff.1 HR.out.res).1
    by_cases hlt : k < N
    · have j1 : (k : Int) < (N : Int) := by omega
      have j0 : (0 : Int) ≤ (k : Int) := by omega
      obtain ⟨q, hq⟩ : ∃ q, on[k]? = some q := ⟨_, List.getElem?_eq_getElem (by rw [← HN.out]; exact hlt)⟩
      obtain ⟨hbw, rfl⟩ := HA.out (by rw [← HN.out]; omega)
      obtain ⟨q0, q1, q2, q3, q4⟩ := HI.out k q hq
      have c0 := (HR.out.below.cell (p := ⟨b, off + k * 5, none⟩) hbw).trans q0
      have c1 := (HR.out.below.cell (p := ⟨b, off + k * 5 + 1, none⟩) hbw).trans q1
      have c2 := (HR.out.below.cell (p := ⟨b, off + k * 5 + 2, none⟩) hbw).trans q2
      have c3 := (HR.out.below.cell (p := ⟨b, off + k * 5 + 3, none⟩) hbw).trans q3
      have c4 := (HR.out.below.cell (p := ⟨b, off + k * 5 + 4, none⟩) hbw).trans q4
      have HQ := hide hq
      clear q0 q1 q2 q3 q4 hq
      have R1 := hide (HR.out.on ((Below.refl wr.heap.size wr).alloc (Nat.le_refl _) (.cells #[.int .i64 q.k, .int .i64 q.n, .int .i64 q.t, .string q.s, .string q.f] 38)))
      by_cases h1 : q.k = 1
      · have h1' : (q.k != 1) = false := by rw [h1]; rfl
        have HM2 : Hid (∀ p ∈ on.take (k + 1), p.k = 1) := by
          intro p hp
          rw [List.take_add_one, HQ.out, List.mem_append] at hp
          rcases hp with hp | hp
          · exact HM.out p hp
          · rw [List.mem_singleton.1 hp]; exact h1
        clear h1
        go_wp2
        go_roundw
        case rel => exact ⟨k + 1, by omega, by go_num, HM2.out, R1.out⟩
        case measure => simp [intOf]; omega
      · have h1' : (q.k != 1) = true := by rw [bne_iff_ne]; exact h1
        have HF : Hid (reckP (ptV y) (on.map ptV) = none) := by
          show _ = _
          unfold reckP
          rw [if_pos]
          exact List.any_eq_true.2 ⟨ptV q, List.mem_map.2 ⟨q, List.mem_of_getElem? HQ.out, rfl⟩, decide_eq_true h1⟩
        obtain ⟨z0, z1, z2, z3, z4, zf⟩ := HR.out.zero
        clear h1
        go_wp2
        refine bodyPost_ret (v := .tuple #[.agg #[.int .i64 0, .int .i64 0, .int .i64 0, .string ⟨#[]⟩, .string ⟨#[]⟩], .bool false]) (by simp [results, Tryz.results52, go_sem, *]) rfl ⟨?_, ?_⟩
        · rw [HF.out]; exact ⟨⟨0, 0, 0, ⟨#[]⟩, ⟨#[]⟩⟩, rfl⟩
        · first
            | exact (set5 HR.out.below (show w.heap.size ≤ w.heap.size + 1 by omega) _ _ _ _ _).alloc (by simp; omega) _
            | exact set5 R1.out.below (show w.heap.size ≤ w.heap.size + 1 by omega) _ _ _ _ _
    · obtain rfl : k = N := by omega
      have HALL : Hid (∀ p ∈ on, p.k = 1) := by
        intro p hp
        exact HM.out p (by rw [List.take_of_length_le (by rw [← HN.out]; omega)]; exact hp)
      obtain ⟨p0, p1, p2⟩ := HR.out.cells
      obtain ⟨z0, z1, z2, z3, z4, zf⟩ := HR.out.zero
      by_cases h6 : y.k = 6
      · --TO
        have k6 : (y.k == 6) = true := by rw [h6]; rfl
        obtain ⟨q, rfl⟩ : ∃ q, on = [q] := by
          have hl : on.length = 1 := by rw [HNT.out]; exact takes_six h6
          match on, hl with | [q], _ => exact ⟨q, rfl⟩
        obtain rfl : k = 1 := HN.out
        obtain ⟨hbw, rfl⟩ := HA.out (by simp)
        obtain ⟨q0, q1, q2, q3, q4⟩ := HI.out 0 q rfl
        simp only [Nat.zero_mul, Nat.add_zero] at q0 q1 q2 q3 q4
        have HF : Hid (reckP (ptV y) (List.map ptV [q]) = if (Four.convN q.t y.t q.n).2 = 0 then some (numP (Four.convN q.t y.t q.n).1 y.t) else none) := by
          show _ = _
          unfold reckP
          rw [if_neg (by simpa [ptV] using HALL.out q (List.mem_singleton.2 rfl)), if_pos (show (ptV y).kind = 6 from h6)]
          rfl
        have zy : w.heap.size < wr.heap.size := by omega
        obtain ⟨W0, hW0⟩ : ∃ W0, W0 = wr.alloc (.cells #[.int .i64 1, .int .i64 0, .int .i64 y.t, .string ⟨#[]⟩, .string ⟨#[]⟩] 38) := ⟨_, rfl⟩
        have HW0 := hide hW0
        have X0 : RkX w y wr.heap.size 0 y.t W0 := by
          rw [hW0]
          exact ⟨HR.out.on ((Below.refl wr.heap.size wr).alloc (Nat.le_refl _) _), by omega, heap_alloc_new wr _⟩
        have C : Hid (∀ W, (W.cell? ⟨w.heap.size, 2, none⟩ = some (.int .i64 y.t) ∧ W.cell? ⟨b, off + 1, none⟩ = some (.int .i64 q.n) ∧ W.cell? ⟨b, off + 2, none⟩ = some (.int .i64 q.t) ∧ RkN w y wr.heap.size y.t W) → Calls Tryz.prog 91 #[.int .i64 q.t, .int .i64 y.t, .int .i64 q.n] W fun e W1 => e = .returned (.tuple #[.int .i64 (Four.convN q.t y.t q.n).1, .int .i64 (Four.convN q.t y.t q.n).2]) ∧ (W1.cell? ⟨w.heap.size, 2, none⟩ = some (.int .i64 y.t) ∧ W1.cell? ⟨b, off + 1, none⟩ = some (.int .i64 q.n) ∧ W1.cell? ⟨b, off + 2, none⟩ = some (.int .i64 q.t) ∧ RkN w y wr.heap.size y.t W1)) := by
          intro W hS
          refine (Four.conv_any q.t y.t q.n W (HG.out.below hS.2.2.2.choose_spec.below HG.out.lt).four).mono ?_
          rintro e W1 ⟨he, rfl⟩
          exact ⟨he, hS⟩
        have S0 : W0.drew.cell? ⟨w.heap.size, 2, none⟩ = some (.int .i64 y.t) ∧ W0.drew.cell? ⟨b, off + 1, none⟩ = some (.int .i64 q.n) ∧ W0.drew.cell? ⟨b, off + 2, none⟩ = some (.int .i64 q.t) ∧ RkN w y wr.heap.size y.t W0.drew := by
          have hb : Below w.heap.size w W0.drew := X0.below.drew
          exact ⟨X0.cells.2.2, (hb.cell (p := ⟨b, off + 1, none⟩) hbw).trans q1, (hb.cell (p := ⟨b, off + 2, none⟩) hbw).trans q2, 0, X0.on (Below.refl _ W0).drew⟩
        obtain ⟨⟨c1, c2⟩, hcv⟩ : ∃ c, c = Four.convN q.t y.t q.n := ⟨_, rfl⟩
        rw [← hcv] at C HF
        have HCV := hide hcv
        clear hcv X0 hW0 q0 q1 q2 q3 q4 h6 HALL HM
        go_wp2_with fail
        rw [← HW0.out]
        go_region_held3 (fun W => W.cell? ⟨w.heap.size, 2, none⟩ = some (.int .i64 y.t) ∧ W.cell? ⟨b, off + 1, none⟩ = some (.int .i64 q.n) ∧ W.cell? ⟨b, off + 2, none⟩ = some (.int .i64 q.t) ∧ RkN w y wr.heap.size y.t W) (first | assumption | exact S0 | (with_reducible exact K2))
          (first | (go_at_call 91; refine (C.out _ ?_).mono ?_; (first | assumption | exact S0); rintro e W1 ⟨rfl, hs⟩; obtain ⟨n0, X1⟩ := hs.2.2.2; obtain ⟨-, m1, -, -, -, mf⟩ := X1.cellsM; have X2 := hide (X1.num c1); have K2 : (W1.setCell ⟨wr.heap.size, 1, none⟩ (.int .i64 c1)).cell? ⟨w.heap.size, 2, none⟩ = some (.int .i64 y.t) ∧ (W1.setCell ⟨wr.heap.size, 1, none⟩ (.int .i64 c1)).cell? ⟨b, off + 1, none⟩ = some (.int .i64 q.n) ∧ (W1.setCell ⟨wr.heap.size, 1, none⟩ (.int .i64 c1)).cell? ⟨b, off + 2, none⟩ = some (.int .i64 q.t) ∧ RkN w y wr.heap.size y.t (W1.setCell ⟨wr.heap.size, 1, none⟩ (.int .i64 c1)) := ⟨(X2.out.cells).2.2, (X2.out.below.cell (p := ⟨b, off + 1, none⟩) hbw).trans ((X1.below.cell (p := ⟨b, off + 1, none⟩) hbw).symm.trans hs.2.1), (X2.out.below.cell (p := ⟨b, off + 2, none⟩) hbw).trans ((X1.below.cell (p := ⟨b, off + 2, none⟩) hbw).symm.trans hs.2.2.1), c1, X2.out⟩))
        all_goals
          clear K2 X1 m1 mf hs
          generalize HW2 : W1.setCell ⟨wr.heap.size, 1, none⟩ (.int .i64 c1) = W2 at *
          obtain ⟨m0, m1, m2, m3, m4, fz⟩ := X2.out.cellsM
          obtain ⟨z0, z1, z2, z3, z4, zf⟩ := X2.out.zero
          have HX := hide X2.out.below
          clear X2 HW2
          go_wp2
          refine bodyPost_ret (v := .tuple #[.agg #[.int .i64 1, .int .i64 c1, .int .i64 y.t, .string ⟨#[]⟩, .string ⟨#[]⟩], .bool (c2 == 0)]) (by simp [results, Tryz.results52, go_sem, *]) rfl ⟨?_, ?_⟩
          · rw [HF.out]
            by_cases hc : c2 = 0
            · subst hc; rfl
            · rw [if_neg hc, beq_eq_false_iff_ne.2 hc]; exact ⟨⟨1, c1, y.t, ⟨#[]⟩, ⟨#[]⟩⟩, rfl⟩
          · exact set5 HX.out (show w.heap.size ≤ w.heap.size + 1 by omega) _ _ _ _ _
        --OT
      · by_cases h5 : y.k = 5
        · --OP
          have k6 : (y.k == 6) = false := by rw [h5]; rfl
          have k5 : (y.k == 5) = true := by rw [h5]; rfl
          have H12 : Hid (on.length = 1 ∨ on.length = 2) := by show _ ∨ _; rw [HNT.out]; exact takes_five h5
          have k0 : (0 : Int) < (k : Int) := by have := H12.out; rw [← HN.out] at this; omega
          obtain ⟨q, hq⟩ : ∃ q, on[0]? = some q := ⟨_, List.getElem?_eq_getElem (by have := H12.out; omega)⟩
          obtain ⟨hbw, rfl⟩ := HA.out (by have := H12.out; omega)
          obtain ⟨q0, q1, q2, q3, q4⟩ := HI.out 0 q hq
          simp only [Nat.zero_mul, Nat.add_zero] at q0 q1 q2 q3 q4
          have HPL : Hid (PLst w (.slice (some ⟨b, off, none⟩) k cap) on) := ⟨_, b, off, cap, by rw [HN.out], fun _ => ⟨hbw, rfl⟩, HI.out⟩
          have HF : Hid (reckP (ptV y) (on.map ptV) = if (opN y.n on).2 = 0 then some (numP (opN y.n on).1 (Four.resN y.n q.t).1) else none) := by
            show _ = _
            unfold reckP
            rw [if_neg, if_neg (show ¬ (ptV y).kind = 6 by show ¬ y.k = 6; omega), if_pos (show (ptV y).kind = 5 from h5)]
            · rcases H12.out with h | h
              · match on, h, hq with | [a], _, hq => obtain rfl := Option.some.inj hq; rfl
              · match on, h, hq with | [a, c], _, hq => obtain rfl := Option.some.inj hq; rfl
            · rw [List.any_eq_true]
              rintro ⟨x, hx, hx'⟩
              obtain ⟨z, hz, rfl⟩ := List.mem_map.1 hx
              exact of_decide_eq_true hx' (HALL.out z hz)
          have zy : w.heap.size < wr.heap.size := by omega
          obtain ⟨W0, hW0⟩ : ∃ W0, W0 = wr.alloc (.cells #[.int .i64 1, .int .i64 0, .int .i64 0, .string ⟨#[]⟩, .string ⟨#[]⟩] 38) := ⟨_, rfl⟩
          have HW0 := hide hW0
          have X0 : RkX w y wr.heap.size 0 0 W0 := by
            rw [hW0]
            exact ⟨HR.out.on ((Below.refl wr.heap.size wr).alloc (Nat.le_refl _) _), by omega, heap_alloc_new wr _⟩
          have C : Hid (∀ W, (W.cell? ⟨w.heap.size, 1, none⟩ = some (.int .i64 y.n) ∧ W.cell? ⟨b, off + 2, none⟩ = some (.int .i64 q.t) ∧ RkT w y wr.heap.size W) → Calls Tryz.prog 92 #[.int .i64 y.n, .int .i64 q.t] W fun e W1 => e = .returned (.tuple #[.int .i64 (Four.resN y.n q.t).1, .int .i64 (Four.resN y.n q.t).2]) ∧ (W1.cell? ⟨w.heap.size, 1, none⟩ = some (.int .i64 y.n) ∧ W1.cell? ⟨b, off + 2, none⟩ = some (.int .i64 q.t) ∧ RkT w y wr.heap.size W1)) := by
            intro W hS
            obtain ⟨t, X⟩ := hS.2.2
            refine (Four.res_any y.n q.t W).mono ?_
            rintro e W1 ⟨he, hb⟩
            have X' := X.on hb
            exact ⟨he, X'.cells.2.1, (X'.below.cell (p := ⟨b, off + 2, none⟩) hbw).trans ((X.below.cell (p := ⟨b, off + 2, none⟩) hbw).symm.trans hS.2.1), t, X'⟩
          have CO : Hid (∀ W, Below w.heap.size w W → Calls Tryz.prog 93 #[.int .i64 y.n, .slice (some ⟨b, off, none⟩) k cap] W fun e W1 => e = .returned (.tuple #[.int .i64 (opN y.n on).1, .int .i64 (opN y.n on).2]) ∧ Below W.heap.size W W1) :=
            fun W hb => operN (HPL.out.below hb (Nat.le_refl _)) H12.out (HG.out.below hb HG.out.lt)
          have S0 : W0.drew.cell? ⟨w.heap.size, 1, none⟩ = some (.int .i64 y.n) ∧ W0.drew.cell? ⟨b, off + 2, none⟩ = some (.int .i64 q.t) ∧ RkT w y wr.heap.size W0.drew := by
            have hb : Below w.heap.size w W0.drew := X0.below.drew
            exact ⟨X0.cells.2.1, (hb.cell (p := ⟨b, off + 2, none⟩) hbw).trans q2, 0, X0.on (Below.refl _ W0).drew⟩
          obtain ⟨⟨r1, r2⟩, hrv⟩ : ∃ c, c = Four.resN y.n q.t := ⟨_, rfl⟩
          obtain ⟨⟨c1, c2⟩, hcv⟩ : ∃ c, c = opN y.n on := ⟨_, rfl⟩
          rw [← hrv] at C HF
          rw [← hcv] at CO HF
          clear hcv hrv X0 hW0 q0 q1 q2 q3 q4 h5 h6 HALL HM hq HPL HI HA
          have e12 : k = 1 ∨ k = 2 := by rw [HN.out]; exact H12.out
          clear k0 n5 n0 hk hlt
          rcases e12 with rfl | rfl
          all_goals
            go_wp2_with fail
            rw [← HW0.out]
            go_region_held3 (fun W => W.cell? ⟨w.heap.size, 1, none⟩ = some (.int .i64 y.n) ∧ W.cell? ⟨b, off + 2, none⟩ = some (.int .i64 q.t) ∧ RkT w y wr.heap.size W) (first | assumption | exact S0 | (with_reducible exact K2))
              (first | (go_at_call 92; refine (C.out _ ?_).mono ?_; (first | assumption | exact S0); rintro e W1 ⟨rfl, hs⟩; obtain ⟨t0, X1⟩ := hs.2.2; obtain ⟨-, -, m2, -, -, mf⟩ := X1.cellsM; have X2 := hide (X1.typ r1); have K2 : (W1.setCell ⟨wr.heap.size, 2, none⟩ (.int .i64 r1)).cell? ⟨w.heap.size, 1, none⟩ = some (.int .i64 y.n) ∧ (W1.setCell ⟨wr.heap.size, 2, none⟩ (.int .i64 r1)).cell? ⟨b, off + 2, none⟩ = some (.int .i64 q.t) ∧ RkT w y wr.heap.size (W1.setCell ⟨wr.heap.size, 2, none⟩ (.int .i64 r1)) := ⟨(X2.out.cells).2.1, (X2.out.below.cell (p := ⟨b, off + 2, none⟩) hbw).trans ((X1.below.cell (p := ⟨b, off + 2, none⟩) hbw).symm.trans hs.2.1), r1, X2.out⟩))
            all_goals
              clear K2 X1 m2 mf hs
              generalize HW2 : W1.setCell ⟨wr.heap.size, 2, none⟩ (.int .i64 r1) = W2 at *
              obtain ⟨p0', p1', p2'⟩ := X2.out.cells
              clear HW2 S0 C
              go_wp2_with fail
              refine (CO.out _ ?_).mono ?_
              · first | exact X2.out.below | exact X2.out.below.drew
              rintro e W3 ⟨rfl, hb3⟩
              have X3 := hide ((show RkX w y wr.heap.size 0 r1 W3 by first | exact X2.out.on hb3 | exact (X2.out.on (Below.refl _ W2).drew).on hb3))
              obtain ⟨m0, m1, m2, m3, m4, fz⟩ := X3.out.cellsM
              obtain ⟨z0, z1, z2, z3, z4, zf⟩ := X3.out.zero
              have HX := hide X3.out.below
              clear X3 X2 hb3
              go_wp2
              refine bodyPost_ret (v := .tuple #[.agg #[.int .i64 1, .int .i64 c1, .int .i64 r1, .string ⟨#[]⟩, .string ⟨#[]⟩], .bool (c2 == 0)]) (by simp [results, Tryz.results52, go_sem, *]) rfl ⟨?_, ?_⟩
              · rw [HF.out]
                by_cases hc : c2 = 0
                · subst hc; rfl
                · rw [if_neg hc, beq_eq_false_iff_ne.2 hc]; exact ⟨⟨1, c1, r1, ⟨#[]⟩, ⟨#[]⟩⟩, rfl⟩
              · exact set5 (HX.out.setCell (p := ⟨wr.heap.size, 1, none⟩) (by show w.heap.size ≤ wr.heap.size; omega) _) (show w.heap.size ≤ w.heap.size + 1 by omega) _ _ _ _ _
          --PO
        · have k6 : (y.k == 6) = false := by rw [beq_eq_false_iff_ne]; exact h6
          have k5 : (y.k == 5) = false := by rw [beq_eq_false_iff_ne]; exact h5
          have HF : Hid (reckP (ptV y) (on.map ptV) = none) := by
            show _ = _
            unfold reckP
            split
            · rfl
            · rw [if_neg (show ¬ (ptV y).kind = 6 from h6), if_neg (show ¬ (ptV y).kind = 5 from h5)]
          have zy : w.heap.size < wr.heap.size := by omega
          clear h5 h6
          go_wp2
          refine bodyPost_ret (v := .tuple #[.agg #[.int .i64 0, .int .i64 0, .int .i64 0, .string ⟨#[]⟩, .string ⟨#[]⟩], .bool false]) (by simp [results, Tryz.results52, go_sem, *]) rfl ⟨?_, ?_⟩
          · rw [HF.out]; exact ⟨⟨0, 0, 0, ⟨#[]⟩, ⟨#[]⟩⟩, rfl⟩
          · first
              | exact (set5 HR.out.below (show w.heap.size ≤ w.heap.size + 1 by omega) _ _ _ _ _).alloc (by simp; omega) _
              | exact set5 (HR.out.below.alloc HR.out.below.size _) (show w.heap.size ≤ w.heap.size + 1 by omega) _ _ _ _ _
end Go.Proofs.YtldjiieckddhkaaGreatDoor
namespace Go.Proofs.YtldjiieckddhkaaGreatDoor
open Go.RowKit Go.Shelf
structure OwnK (O : List Nat) (A B : World) : Prop where
  size : A.heap.size ≤ B.heap.size
  block : ∀ k ∈ O, B.heap[k]? = A.heap[k]?
theorem OwnK.refl (O : List Nat) (A : World) : OwnK O A A := ⟨Nat.le_refl _, fun _ _ => rfl⟩
theorem OwnK.trans {O : List Nat} {A B C : World} (h : OwnK O A B) (k : OwnK O B C) : OwnK O A C := ⟨Nat.le_trans h.size k.size, fun i hi => (k.block i hi).trans (h.block i hi)⟩
theorem OwnK.mono {O O' : List Nat} {A B : World} (h : OwnK O A B) (hs : ∀ k ∈ O', k ∈ O) : OwnK O' A B := ⟨h.size, fun k hk => h.block k (hs k hk)⟩
theorem OwnK.putObj {O : List Nat} {A : World} {l : Nat} (o : Obj) (hl : l ∉ O) : OwnK O A (A.putObj l o) := ⟨by simp [World.putObj], fun k hk => World.putObj_heap_other (fun e => hl (e ▸ hk))⟩
structure Chg (B0 : Nat) (O : List Nat) (A B : World) : Prop where
  os : B.os = A.os
  tape : B.tape = A.tape
  output : B.output = A.output
  size : A.heap.size ≤ B.heap.size
  block : ∀ k o, A.heap[k]? = some o → k ∉ O → (k < B0 ∨ o.isCells = true) → B.heap[k]? = some o
theorem Chg.of_keep {B0 : Nat} {O : List Nat} {A B : World} (h : KeepX O A B) : Chg B0 O A B :=
  ⟨h.os, h.tape, h.output, h.size, fun k _ hk ho _ => (h.block k (Array.getElem?_eq_some_iff.1 hk).1 ho).trans hk⟩
theorem Chg.putObj {B0 : Nat} {O : List Nat} {A : World} {l : Nat} {o : Obj} (o' : Obj) (hB : B0 ≤ l) (hl : A.heap[l]? = some o) (ho : o.isCells = false) : Chg B0 O A (A.putObj l o') :=
  ⟨rfl, rfl, rfl, by simp [World.putObj], fun k p hk _ hp => by
    by_cases e : k = l
    · subst e
      obtain rfl := Option.some.inj (hl.symm.trans hk)
      rcases hp with hp | hp
      · omega
      · rw [ho] at hp; cases hp
    · exact (World.putObj_heap_other e).trans hk⟩
def Grows (O O' : List Nat) (A B : World) : Prop := (∀ k ∈ O, k ∈ O') ∧ (∀ k ∈ O', k ∈ O ∨ (A.heap.size ≤ k ∧ k < B.heap.size))
variable {F : Fence} {n : Nat} {P : Program}
def SeqO {α : Type} (F : Fence) (n : Nat) (P : Program) (g : Nat) (lb : Array Value) (encs : α → Array Value) (Good : List α → α → List Nat → World → Prop) (Kb : List Nat) (S : List α → Prop) (w : World) : Prop :=
  ∀ (l : Nat) (J : List α → List Nat → World → Prop) (W : World), Below w.heap.size w W →
    (∀ pre O O' A B, J pre O A → KeepX O A B → Grows O O' A B → J pre O' B) →
    (∀ pre O x W1, J pre O W1 → Good pre x O W1 → YieldAt F (n - 1) P l (encs x) W1 fun e W' => e = .returned (.bool true) ∧ J (pre ++ [x]) O W' ∧ OwnK (Kb ++ O) W1 W') →
    J [] [] W →
    CallsIn F n P g (#[.func (.yield l) #[] #[]] ++ lb) W fun e W' => (∃ v, e = .returned v) ∧ ∃ xs O, S xs ∧ J xs O W'
def postO {α : Type} (Kb : List Nat) (I : List α → List Nat → World → Prop) (xs : List α) (O : List Nat) (W : World) : Exit → Act → World → Prop
  | .normal, _, W' => KeepsOthers W W' ∧ OwnK (Kb ++ O) W W' ∧ I xs O W'
  | _, _, _ => False
theorem wpIn_rangeFunc_O {α : Type} {g : Operand} {ps : Array Tmp} {assign body : Code} {Q : Exit → Act → World → Prop} {a : Act} {w : World}
    (hro : F.round = none) (h1 : 1 ≤ n) {gf : Nat} {lb : Array Value} (hg : a.eval g = .func (.func gf) #[] lb) (hFg : F.fn gf) (eg : ∀ args w, (callFunc gf args).run P w = .ok (.enter gf args) w)
    {encs : α → Array Value} {Good : List α → α → List Nat → World → Prop} {Kb : List Nat} {S : List α → Prop} (hseq : SeqO F (n - 1) P gf lb encs Good Kb S w)
    (hKb : ∀ k ∈ Kb, k < w.heap.size) (hGd : ∀ pre x O A B, Good pre x O A → OwnK O A B → Good pre x O B) (hps : ∀ x, (encs x).size = ps.size)
    (I : List α → List Nat → World → Prop) (hI : ∀ pre O O' A B, I pre O A → Chg w.heap.size O A B → Grows O O' A B → I pre O' B) (h0 : I [] [] w) (a₁ : α → Act)
    (hassign : ∀ (l : Nat) (x : α) (W : World) (K : Act → World → Prop), K (a₁ x) W →
      assign.wpIn (F.inRound l) (n - 1 - 1) P (Exit.then K (fun _ _ _ => False)) { tmps := (ps.zip (encs x)).foldl (fun t (p, v) => t.setIfInBounds p v) a.tmps, defers := [] } W)
    (hbody : ∀ (l : Nat) (pre : List α) (O : List Nat) (x : α) (W : World), I pre O W → Good pre x O W → body.wpIn (F.inRound l) (n - 1 - 1) P (postO Kb I (pre ++ [x]) O W) (a₁ x) W)
    (hdone : ∀ (D : Nat) (xs : List α) (O : List Nat) (W : World), w.heap.size ≤ D → S xs → I xs O W → W.heap[D]? = some (.deferred (some [])) → Q .normal { a with defers := { target := .collected D, args := #[] } :: a.defers } W) :
    (Code.rangeFunc g ps assign body).wpIn F n P Q a w := by
  refine wpIn_rangeFunc ?_
  intro fn hfn
  rw [hro]
  obtain ⟨rec, hrec⟩ : ∃ rec : LoopState → Option Code → Loop, rec = fun st pe => { state := st, pending := pe, fn, tmps := a.tmps, params := ps, assign, body, defers := w.heap.size } := ⟨_, rfl⟩
  obtain ⟨W1, hW1⟩ : ∃ W1, (w.alloc (.deferred (some []))).alloc (.loop (rec .ready none)) = W1 := ⟨_, rfl⟩
  have hL1 : W1.heap[w.heap.size + 1]? = some (.loop (rec .ready none)) := by
    rw [← hW1]; have := World.alloc_heap_new (w.alloc (.deferred (some []))) (.loop (rec .ready none)); rwa [World.size_alloc] at this
  have hK1 : W1.heap[w.heap.size]? = some (.deferred (some [])) := by
    rw [← hW1]; exact (Below.heap_alloc _ _ _ (by simp)).trans (World.alloc_heap_new w _)
  have hb1 : Below w.heap.size w W1 := by
    rw [← hW1]; exact ((Below.refl _ w).alloc (Nat.le_refl _) _).alloc (by simp) _
  have hI1 : I [] [] W1 := hI _ _ _ _ _ h0 (Chg.of_keep (KeepX.of_below hb1)) ⟨fun _ h => h, fun _ h => .inl h⟩
  refine ⟨w.heap.size + 1, [{ target := .collected w.heap.size, args := #[] }], W1, { target := .fn (.func gf) lb, args := #[.func (.yield (w.heap.size + 1)) #[] #[]] }, W1, gf,
    #[.func (.yield (w.heap.size + 1)) #[] #[]] ++ lb, W1, ?_, ?_, ?_, ?_, fun _ => h1, ?_⟩
  · rw [← hW1, hrec]; exact run_enterLoop_outer _ _ _ _ _
  · simp only [resolve, hg]
    simp [go_sem]
  · intro f' hf'; simp [Target.leads] at hf'; subst hf'; exact hFg
  · simp [invoke, go_sem, eg]
  · refine (hseq (w.heap.size + 1)
      (fun pre O W => I pre O W ∧ W.heap[w.heap.size + 1]? = some (.loop (rec .ready none)) ∧ W.heap[w.heap.size]? = some (.deferred (some [])) ∧ w.heap.size + 1 ∉ O ∧ w.heap.size ∉ O)
      W1 hb1 ?_ ?_ ⟨hI1, hL1, hK1, List.not_mem_nil, List.not_mem_nil⟩).mono ?_
    · rintro pre O O' A B ⟨hi, hl, hk, n1, n2⟩ hx hgr
      have s1 := (Array.getElem?_eq_some_iff.1 hl).1
      have s2 := (Array.getElem?_eq_some_iff.1 hk).1
      exact ⟨hI _ _ _ _ _ hi (Chg.of_keep hx) hgr, (hx.block _ s1 n1).trans hl, (hx.block _ s2 n2).trans hk,
        fun h => (hgr.2 _ h).elim n1 (fun h => by have := h.1; omega), fun h => (hgr.2 _ h).elim n2 (fun h => by have := h.1; omega)⟩
    · rintro pre O x W ⟨hi, hl, hk, n1, n2⟩ hgd
      have hlt : w.heap.size + 1 < W.heap.size := (Array.getElem?_eq_some_iff.1 hl).1
      have hn : w.heap.size + 1 ∉ Kb ++ O := fun h => (List.mem_append.1 h).elim (fun h => by have := hKb _ h; omega) n1
      have hy := run_yield (P := P) (args := encs x) hl (by rw [hrec]; exact hps x)
      rw [hrec] at hy
      refine ⟨fn, _, assign, body, hy, roundIn_of_wpIn hfn (hassign _ x W _ ⟨_, run_beginRound hl (by rw [hrec]), ?_⟩)⟩
      have hl2 : (W.putObj (w.heap.size + 1) (.loop { rec .ready none with state := .busy })).heap[w.heap.size + 1]? = some (.loop { rec .ready none with state := .busy }) := World.putObj_heap_same hlt
      have hk2 : (W.putObj (w.heap.size + 1) (.loop { rec .ready none with state := .busy })).heap[w.heap.size]? = some (.deferred (some [])) := (World.putObj_heap_other (by omega)).trans hk
      have hw2 : OwnK (Kb ++ O) W (W.putObj (w.heap.size + 1) (.loop { rec .ready none with state := .busy })) := OwnK.putObj _ hn
      have same : ∀ A B : World, Grows O O A B := fun _ _ => ⟨fun _ h => h, fun _ h => .inl h⟩
      refine wpIn_mono (hbody _ pre O x _ (hI _ _ _ _ _ hi (Chg.putObj _ (by omega) hl rfl) (same _ _)) (hGd _ _ _ _ _ hgd (hw2.mono fun k hk => List.mem_append_right _ hk))) ?_
      rintro e a3 W3 hp
      cases e with
      | normal =>
        obtain ⟨hk3, hkp3, hi3⟩ := hp
        have hl3 := hk3.same _ _ hl2 rfl
        have hr := run_endRound (P := P) none hl3
        rw [hrec] at hr
        refine ⟨_, _, hr, rfl, ⟨hI _ _ _ _ _ hi3 (Chg.putObj _ (by omega) hl3 rfl) (same _ _), ?_, (World.putObj_heap_other (by omega)).trans (hk3.same _ _ hk2 rfl), n1, n2⟩, (hw2.trans hkp3).trans (OwnK.putObj _ hn)⟩
        rw [hrec]
        exact World.putObj_heap_same (Array.getElem?_eq_some_iff.1 hl3).1
      | ret => exact hp.elim
      | exit id => exact hp.elim
      | goto t => exact hp.elim
      | panic ch => exact hp.elim
      | outgrown => exact hp.elim
    · rintro e W2 ⟨⟨v, rfl⟩, xs, O, hS, hi, hl, hk, n1, n2⟩
      exact ⟨none, _, by have := run_endLoop (P := P) hl (by rw [hrec]; simp); rw [hrec] at this; exact this, hdone _ xs O _ (Nat.le_refl _) hS (hI _ _ _ _ _ hi (Chg.putObj _ (by omega) hl rfl) ⟨fun _ h => h, fun _ h => .inl h⟩) ((World.putObj_heap_other (by omega)).trans hk)⟩
end Go.Proofs.YtldjiieckddhkaaGreatDoor
