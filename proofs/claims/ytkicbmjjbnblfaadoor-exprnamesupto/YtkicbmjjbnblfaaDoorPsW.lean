/- The contracts of expr.rowReader and of expr.Parse. -/
import Derived.Test.YtkicbmjjbnblfaaDoorReB
import Derived.Test.YtkicbmjjbnblfaaDoorCkW
namespace Go.Proofs.YtkicbmjjbnblfaaDoor
open Go.RowKit
theorem alloc2_z (w : World) (A C : Obj) : ((w.alloc A).alloc C).heap[w.heap.size + 1]? = some C := by
  have := heap_alloc_new (w.alloc A) C
  rw [World.size_alloc] at this
  exact this
set_option maxRecDepth 100000 in
set_option maxHeartbeats 800000 in
theorem rowReader_any (R : Nat) (w : World) : Calls Tryd.prog 19 #[.pointer (some ⟨R, 0, none⟩)] w fun e w' => e = .returned (fvOf w.heap.size (w.heap.size + 1)) ∧ Below w.heap.size w w' ∧ w'.heap.size = w.heap.size + 2 ∧ w'.cell? ⟨w.heap.size, 0, none⟩ = some (.pointer (some ⟨R, 0, none⟩)) ∧ w'.cell? ⟨w.heap.size + 1, 0, none⟩ = some (fvOf w.heap.size (w.heap.size + 1)) := by
  have hst : (store ⟨w.heap.size + 1, 0, none⟩ (fvOf w.heap.size (w.heap.size + 1))).run Tryd.prog ((w.alloc (.cells #[.pointer (some ⟨R, 0, none⟩)] 52)).alloc (.cells #[.nilFunc] 55)) = .ok () (((w.alloc (.cells #[.pointer (some ⟨R, 0, none⟩)] 52)).alloc (.cells #[.nilFunc] 55)).setCell ⟨w.heap.size + 1, 0, none⟩ (fvOf w.heap.size (w.heap.size + 1))) := by
    rw [run_store _ _ _ _ _ rfl, Lib.cell_of_heap (alloc2_z w _ _), Lib.frozen_of_heap (alloc2_z w _ _) 0]
    rfl
  unfold fvOf at hst
  go_enter Tryd.func19, Tryd.ntmps19
  go_wp2
  go_ret
  refine ⟨rfl, ((Below.refl _ _).alloc (Nat.le_refl _) _).alloc (by simp) _, by simp, ?_, ?_⟩
  · rw [World.cell?_alloc_lt _ _ _ (by simp), Lib.cell_of_heap (heap_alloc_new w _)]; rfl
  · rw [Lib.cell_of_heap (alloc2_z w _ _)]; rfl
theorem own_base {w : World} {b b' e size n : Nat} {v : Value} {xs : List Value} (h : w.ownsRow b e size v n xs) (hb : b' ≤ b) : w.ownsRow b' e size v n xs :=
  ⟨h.1, h.2.imp id fun ⟨g, cap, cur, r1, r2, r⟩ => ⟨g, cap, cur, r1, Nat.le_trans hb r2, r⟩⟩
/-- what Parse answers -/
def ParsePost (toks : List Tv) (at_ : Nat) (w : World) (e : Ending) (w' : World) : Prop :=
  Below w.heap.size w w' ∧ match parse (lst toks at_) with
  | .ok (x, r) => ∃ pv xs, xs.map ptV = x ∧ e = .returned (.tuple #[pv, .int .i64 ((toks.length - r.length : Nat) : Int), .agg #[.int .i64 0, .int .i64 0]]) ∧ w'.ownsRow w.heap.size 46 5 pv xs.length (pvsC xs)
  | .error (k, c) => e = .returned (.tuple #[.slice none 0 0, .int .i64 0, .agg #[.int .i64 ((toks.length - k : Nat) : Int), .int .i64 c]])
def ended (l : List Tk) (res : Res) : Except (Nat × Int) (List Pt × List Tk) := match res with
  | .error e => .error e
  | .ok (x, r) => if 500 < x.length ∨ 24 < depth x then .error (l.length, 2) else .ok (x, r)
theorem parse_of {l : List Tk} {res : Res} (h : rd (fuel l) (.row 0) 0 l = some res) : parse l = ended l res := by
  unfold parse ended
  rw [h]
  cases res with
  | error e => rfl
  | ok p => obtain ⟨x, r⟩ := p; rfl
theorem Keep.down {B R : Nat} {a w w' : World} (h : Below a.heap.size a w) (hk : Keep B R w w') (hB : a.heap.size ≤ B) (hR : a.heap.size ≤ R) : Below a.heap.size a w' :=
  h.trans ⟨hk.os, hk.tape, hk.output, hk.size, fun k hk1 => hk.block k (by omega) (by omega)⟩
set_option maxRecDepth 100000 in
set_option maxHeartbeats 3200000 in
theorem parse_any (tv : Value) (toks : List Tv) (at_ : Nat) (w : World) (hat : at_ ≤ toks.length) (hl : toks.length ≤ 3000000000000) (hs : ∀ i, (tokAt toks i).s.size ≤ 140737488355000) (hL : Lst w tv toks) (hg : Glo w) : Calls Tryd.prog 9 #[tv, .int .i64 (at_ : Int)] w (ParsePost toks at_ w) := by
  obtain ⟨res, hres⟩ : ∃ res, rd (fuel (lst toks at_)) (.row 0) 0 (lst toks at_) = some res := by
    cases hq : rd (fuel (lst toks at_)) (.row 0) 0 (lst toks at_) with
    | none => exact absurd hq (rd_ends _ _ _ _ (by unfold fuel; simp only [rank]; omega))
    | some res => exact ⟨res, rfl⟩
  have hlt8 := hg.lt
  have HG := hide hg
  obtain ⟨ta, tb, toff, tcap, htv, hA, hT⟩ := hL
  have HPA := hide (parse_of hres)
  have HOK := hide ((reader_ok (P1 := w.heap.size + 2) (P2 := w.heap.size + 3) (field_ok (B := w.heap.size + 4) (R := w.heap.size + 1) (tv := tv) hl hs) hl (fuel (lst toks at_))).1 _ (Nat.le_refl _))
  have HRES := hide hres
  have HA := hide hA
  have HT := hide hT
  have HTV := hide htv
  have i1 : (at_ : Int) ≤ (toks.length : Int) := by omega
  have i0 : ¬ (at_ : Int) < 0 := by omega
  have i2 : ¬ (toks.length : Int) < (at_ : Int) := by omega
  obtain ⟨N, hN⟩ : ∃ N, N = toks.length := ⟨_, rfl⟩
  rw [← hN] at htv i1 i2
  have HN := hide hN
  have c1 := rowReader_any (w.heap.size + 1) ((w.alloc (.cells #[.int .i64 0, .int .i64 0] 27)).alloc (.cells #[tv, .int .i64 (at_ : Int), .int .i64 0, .slice none 0 0, .int .i64 0, .int .i64 0] 54))
  have hzz : ((w.alloc (.cells #[.int .i64 0, .int .i64 0] 27)).alloc (.cells #[tv, .int .i64 (at_ : Int), .int .i64 0, .slice none 0 0, .int .i64 0, .int .i64 0] 54)).heap.size = w.heap.size + 2 := by simp
  rw [hzz] at c1
  have B0 : Hid (Below w.heap.size w ((w.alloc (.cells #[.int .i64 0, .int .i64 0] 27)).alloc (.cells #[tv, .int .i64 (at_ : Int), .int .i64 0, .slice none 0 0, .int .i64 0, .int .i64 0] 54))) := ((Below.refl _ _).alloc (Nat.le_refl _) _).alloc (by simp) _
  have HF0 : Hid (((w.alloc (.cells #[.int .i64 0, .int .i64 0] 27)).alloc (.cells #[tv, .int .i64 (at_ : Int), .int .i64 0, .slice none 0 0, .int .i64 0, .int .i64 0] 54)).heap[w.heap.size]? = some (.cells #[.int .i64 0, .int .i64 0] 27)) := by
    show _ = _
    rw [((Below.refl (w.alloc (.cells #[.int .i64 0, .int .i64 0] 27)).heap.size (w.alloc (.cells #[.int .i64 0, .int .i64 0] 27))).alloc (Nat.le_refl _) _).block w.heap.size (by simp)]
    exact heap_alloc_new w _
  have HR0 : Hid (((w.alloc (.cells #[.int .i64 0, .int .i64 0] 27)).alloc (.cells #[tv, .int .i64 (at_ : Int), .int .i64 0, .slice none 0 0, .int .i64 0, .int .i64 0] 54)).heap[w.heap.size + 1]? = some (.cells #[tv, .int .i64 (at_ : Int), .int .i64 0, .slice none 0 0, .int .i64 0, .int .i64 0] 54)) := alloc2_z w _ _
  have HW0 : Hid (∀ w1 : World, Below (w.heap.size + 2) ((w.alloc (.cells #[.int .i64 0, .int .i64 0] 27)).alloc (.cells #[tv, .int .i64 (at_ : Int), .int .i64 0, .slice none 0 0, .int .i64 0, .int .i64 0] 54)) w1 → w1.heap.size = w.heap.size + 2 + 2 → w1.cell? ⟨w.heap.size + 2, 0, none⟩ = some (.pointer (some ⟨w.heap.size + 1, 0, none⟩)) → w1.cell? ⟨w.heap.size + 2 + 1, 0, none⟩ = some (fvOf (w.heap.size + 2) (w.heap.size + 2 + 1)) → Below w.heap.size w w1 ∧ w1.heap[w.heap.size]? = some (.cells #[.int .i64 0, .int .i64 0] 27) ∧ RS (w.heap.size + 4) (w.heap.size + 1) tv toks at_ 0 [] 0 0 w1 ∧ Env (w.heap.size + 4) (w.heap.size + 1) (w.heap.size + 2) (w.heap.size + 3) w1) := by
    intro w1 hb1 hz1 hc1 hc2
    have B1 : Below w.heap.size w w1 := B0.out.trans (hb1.mono (by omega))
    refine ⟨B1, by rw [hb1.block _ (by omega)]; exact HF0.out, ⟨by omega, by omega, hat, ⟨.slice none 0 0, by rw [hb1.block _ (by omega)]; exact HR0.out, World.ownsRow_nil _ _ _ _⟩, ⟨ta, tb, toff, tcap, by rw [HTV.out], fun h0 => ⟨by have := (HA.out h0).1; omega, by have := (HA.out h0).1; omega, (HA.out h0).2⟩, fun i x hx => ?_⟩⟩, ⟨HG.out.below B1 HG.out.lt, hc1, hc2, by omega, by omega, by omega, by omega, by omega, by omega⟩⟩
    have hlt := (HA.out (by have := (List.getElem?_eq_some_iff.1 hx).1; omega)).1
    obtain ⟨h1, h2, h3, h4, h5⟩ := HT.out i x hx
    exact ⟨(B1.cell (p := ⟨tb, _, none⟩) hlt).trans h1, (B1.cell (p := ⟨tb, _, none⟩) hlt).trans h2, (B1.cell (p := ⟨tb, _, none⟩) hlt).trans h3, (B1.cell (p := ⟨tb, _, none⟩) hlt).trans h4, (B1.cell (p := ⟨tb, _, none⟩) hlt).trans h5⟩
  clear hzz B0 HF0 HR0 HG HTV HA HT
  subst htv
  have HLEN := hide hl
  clear hg hres hA hT hN hs hl
  go_enter Tryd.func9, Tryd.ntmps9
  go_wp2_with fail
  refine c1.mono ?_
  rintro e w1 ⟨rfl, hb1, hz1, hc1, hc2⟩
  obtain ⟨b1, f1, rs1, en1⟩ := HW0.out w1 hb1 hz1 hc1 hc2
  have c2 := HOK.out 0 at_ 0 [] 0 0 w1 res (by omega) (by omega) (Nat.zero_le _) rs1 en1 HRES.out
  have B1 := hide b1
  have F1 := hide f1
  have hR1 := rs1.le
  clear c1 hb1 hz1 hc1 hc2 HW0 HOK b1 f1 rs1 en1
  unfold fvOf
  go_wp2_with fail
  refine c2.mono ?_
  rintro e w2 ⟨hk2, hp2⟩
  have B2 := hide (Keep.down B1.out hk2 (by omega) (by omega))
  have F2 : Hid (w2.heap[w.heap.size]? = some (.cells #[.int .i64 0, .int .i64 0] 27)) := by
    show _ = _
    rw [hk2.block _ (by omega) (by omega)]
    exact F1.out
  clear c2 hk2 B1 F1
  cases res with
  | error z =>
    obtain ⟨k, c⟩ := z
    simp only [] at hp2
    unfold ended at HPA
    simp only [] at HPA
    obtain ⟨rfl, at2, op2, ps2, hr2⟩ := hp2
    obtain ⟨pv, hrow, _⟩ := hr2.row
    have d4 : w2.cell? ⟨w.heap.size + 1, 4, none⟩ = some (.int .i64 ((toks.length - k : Nat) : Int)) := by rw [Lib.cell_of_heap hrow]; rfl
    have d5 : w2.cell? ⟨w.heap.size + 1, 5, none⟩ = some (.int .i64 c) := by rw [Lib.cell_of_heap hrow]; rfl
    have k0 : w2.cell? ⟨w.heap.size, 0, none⟩ = some (.int .i64 0) := by rw [Lib.cell_of_heap F2.out]; rfl
    have k1 : w2.cell? ⟨w.heap.size, 1, none⟩ = some (.int .i64 0) := by rw [Lib.cell_of_heap F2.out]; rfl
    have z0 : ∀ j, w2.frozen? ⟨w.heap.size, j, none⟩ = false := fun j => Lib.frozen_of_heap F2.out j
    clear hrow hr2
    go_wp2
    go_region_with (fail)
    all_goals
      go_wp2
      refine bodyPost_ret (v := .tuple #[.slice none 0 0, .int .i64 0, .agg #[.int .i64 ((toks.length - k : Nat) : Int), .int .i64 c]]) ?_ rfl ⟨?_, ?_⟩
      · simp [results, Tryd.results9, go_sem, k0, k1]
      · exact ((B2.out.setCell (p := ⟨w.heap.size, 0, none⟩) (Nat.le_refl _) _).setCell (p := ⟨w.heap.size, 1, none⟩) (Nat.le_refl _) _).drew
      · rw [HPA.out]
  | ok z =>
    obtain ⟨x, r⟩ := z
    simp only [] at hp2
    unfold ended at HPA
    simp only [] at HPA
    obtain ⟨rfl, xs, hxs, hr2⟩ := hp2
    obtain ⟨pv, hrow, hown⟩ := hr2.row
    rw [List.nil_append] at hown
    have hxl : xs.length = x.length := by rw [← hxs, List.length_map]
    have hpp := (rd_reads HRES.out).parts
    rw [lst_len] at hpp
    obtain ⟨pa, pcap, hpv, hpc⟩ := own_form3 hown
    have c3 := depthOf_any pv xs w2 (PLst.of_owns hown) (by have := HLEN.out; omega)
    have HDL := hide (depth_le_len x)
    rw [hxs] at c3
    have d1 : w2.cell? ⟨w.heap.size + 1, 1, none⟩ = some (.int .i64 ((toks.length - r.length : Nat) : Int)) := by rw [Lib.cell_of_heap hrow]; rfl
    have d3 : w2.cell? ⟨w.heap.size + 1, 3, none⟩ = some pv := by rw [Lib.cell_of_heap hrow]; rfl
    have HROW := hide hrow
    have HOWN := hide hown
    have HXS := hide hxs
    have n1 : xs.length ≤ 3000000000000 := by have := HLEN.out; omega
    obtain ⟨M, hM⟩ : ∃ M, M = xs.length := ⟨_, rfl⟩
    rw [← hM] at hpv n1 hxl hpc
    have HM := hide hM
    subst hpv
    obtain ⟨dd, hdd⟩ : ∃ dd, dd = depth x := ⟨_, rfl⟩
    rw [← hdd] at c3 HDL HPA
    have d9 : dd ≤ 3000000000000 := by have := HDL.out; omega
    have m1 : (M : Int) ≤ 3000000000000 := by omega
    have m2 : (dd : Int) ≤ 3000000000000 := by omega
    rw [← hxl] at HPA
    clear hrow hown hr2 hxs hpp hM hdd hxl HDL
    go_wp2_with fail
    refine c3.mono ?_
    rintro e w3 ⟨rfl, hb3⟩
    have hR2 : w.heap.size + 1 < w2.heap.size := lt_of_heap HROW.out
    have B3 := hide (B2.out.trans (hb3.mono B2.out.size))
    have F3 : Hid (w3.heap[w.heap.size]? = some (.cells #[.int .i64 0, .int .i64 0] 27)) := by
      show _ = _
      rw [hb3.block _ (by omega)]
      exact F2.out
    have e1 : w3.cell? ⟨w.heap.size + 1, 1, none⟩ = some (.int .i64 ((toks.length - r.length : Nat) : Int)) := (hb3.cell (p := ⟨w.heap.size + 1, 1, none⟩) hR2).trans d1
    have e3 : w3.cell? ⟨w.heap.size + 1, 3, none⟩ = some (.slice pa M pcap) := (hb3.cell (p := ⟨w.heap.size + 1, 3, none⟩) hR2).trans d3
    have k0 : w3.cell? ⟨w.heap.size, 0, none⟩ = some (.int .i64 0) := by rw [Lib.cell_of_heap F3.out]; rfl
    have k1 : w3.cell? ⟨w.heap.size, 1, none⟩ = some (.int .i64 0) := by rw [Lib.cell_of_heap F3.out]; rfl
    have z0 : ∀ j, w3.frozen? ⟨w.heap.size, j, none⟩ = false := fun j => Lib.frozen_of_heap F3.out j
    have O3 := hide (own_on HOWN.out hb3)
    clear c3 hb3 d1 d3 F2 HROW HOWN B2
    by_cases hbad : 500 < M ∨ 24 < dd
    · have HP2 : Hid (parse (lst toks at_) = .error ((lst toks at_).length, 2)) := by
        show _ = _
        rw [HPA.out, if_pos hbad]
      have HAT : Hid (((toks.length - (lst toks at_).length : Nat) : Int) = (at_ : Int)) := by
        show _ = _
        rw [lst_len]; omega
      clear HPA
      rcases Nat.lt_or_ge 500 M with h5 | h5
      · have i5 : (500 : Int) < (M : Int) := by omega
        clear hbad
        go_wp2
        refine bodyPost_ret (v := .tuple #[.slice none 0 0, .int .i64 0, .agg #[.int .i64 (at_ : Int), .int .i64 2]]) ?_ rfl ⟨?_, ?_⟩
        · simp [results, Tryd.results9, go_sem, k0, k1]
        · exact (B3.out.setCell (p := ⟨w.heap.size, 0, none⟩) (Nat.le_refl _) _).setCell (p := ⟨w.heap.size, 1, none⟩) (Nat.le_refl _) _
        · rw [HP2.out]
          simp only []
          rw [HAT.out]
      · have i5 : ¬ (500 : Int) < (M : Int) := by omega
        have i6 : (24 : Int) < (dd : Int) := by omega
        clear hbad
        go_wp2
        refine bodyPost_ret (v := .tuple #[.slice none 0 0, .int .i64 0, .agg #[.int .i64 (at_ : Int), .int .i64 2]]) ?_ rfl ⟨?_, ?_⟩
        · simp [results, Tryd.results9, go_sem, k0, k1]
        · exact (B3.out.setCell (p := ⟨w.heap.size, 0, none⟩) (Nat.le_refl _) _).setCell (p := ⟨w.heap.size, 1, none⟩) (Nat.le_refl _) _
        · rw [HP2.out]
          simp only []
          rw [HAT.out]
    · have HP2 : Hid (parse (lst toks at_) = .ok (x, r)) := by
        show _ = _
        rw [HPA.out, if_neg hbad]
      have i5 : ¬ (500 : Int) < (M : Int) := by omega
      have i6 : ¬ (24 : Int) < (dd : Int) := by omega
      clear HPA hbad
      go_wp2
      go_region_with (fail)
      all_goals
        go_wp2
        refine bodyPost_ret (v := .tuple #[.slice pa M pcap, .int .i64 ((toks.length - r.length : Nat) : Int), .agg #[.int .i64 0, .int .i64 0]]) ?_ rfl ⟨?_, ?_⟩
        · simp [results, Tryd.results9, go_sem, k0, k1]
        · exact ((B3.out.setCell (p := ⟨w.heap.size, 0, none⟩) (Nat.le_refl _) _).setCell (p := ⟨w.heap.size, 1, none⟩) (Nat.le_refl _) _).drew
        · rw [HP2.out]
          refine ⟨_, xs, HXS.out, rfl, ?_⟩
          have o4 := O3.out
          rw [← HM.out] at o4 ⊢
          exact own_base (ownsRow_setCell_below (ownsRow_setCell_below o4 (a := ⟨w.heap.size, 0, none⟩) (by show w.heap.size < w.heap.size + 4; omega) _) (a := ⟨w.heap.size, 1, none⟩) (by show w.heap.size < w.heap.size + 4; omega) _) (by omega)
end Go.Proofs.YtkicbmjjbnblfaaDoor
