/- The walk of ExprStops. -/
import Derived.Test.YtkicbmjjbnblfaaDoorSsL
namespace Go.Proofs.YtkicbmjjbnblfaaDoor
open Go.RowKit
theorem own_alloc {w : World} {b e size n : Nat} {v : Value} {xs : List Value} (h : w.ownsRow b e size v n xs) (o : Obj) : (w.alloc o).ownsRow b e size v n xs := h.alloc o
theorem own_drew {w : World} {b e size n : Nat} {v : Value} {xs : List Value} (h : w.ownsRow b e size v n xs) : w.drew.ownsRow b e size v n xs := h
set_option maxRecDepth 100000 in
set_option maxHeartbeats 6400000 in
theorem stops_ok (lv : Value) (l : List Tv) (z : Int) (w : World) (hL : Lst w lv l) (hcap : ∀ a n cap, lv = .slice a n cap → n ≤ cap) (hll : l.length ≤ 2932031007403) (hls : ∀ i, (tokAt l i).s.size ≤ 140737488355000) (hg : Glo w) {ys : List Pt} {r : List Tk} (hl : parse (lst l 0) = .ok (ys, r)) : Calls Tryd.prog 6 #[lv, .int .i64 z] w fun e w' => e = .returned (.bool true) ∧ Below w.heap.size w w' := by
  have c1 := works_ok w hg
  obtain ⟨I, hI, hI5⟩ := mod5 z
  have HG := hide hg
  have HL := hide hL
  have HP := hide hl
  have hlen : r.length + 1 ≤ l.length := by
    have h1 : ∃ f, rd f (.row 0) 0 (lst l 0) = some (.ok (ys, r)) := by
      unfold parse at hl
      split at hl
      · cases hl
      · cases hl
      · rename_i hq
        split at hl
        · cases hl
        · injection hl with hl
          rw [hl] at hq
          exact ⟨_, hq⟩
    obtain ⟨f, h1⟩ := h1
    have h2 := (rd_reads h1).len
    rw [lst_len] at h2
    simp only [strict] at h2
    omega
  obtain ⟨la, lb, lo, lcap, hlv, hA, hT⟩ := hL
  obtain ⟨_, hla⟩ := hA (by omega)
  subst hla
  have hcc := hcap _ _ _ hlv
  have HLS := hide hls
  have HLL := hide hll
  obtain ⟨NL, hNL⟩ : ∃ NL, NL = l.length := ⟨_, rfl⟩
  rw [← hNL] at hlv hll hcc
  have i2 : (NL : Int) ≤ 3000000000000 := by omega
  have HNL := hide hNL
  have i3 : (I : Int) < 5 := by omega
  have i4 : (0 : Int) ≤ (I : Int) := by omega
  subst hlv
  clear hl hls hll hNL hg hcap hA hT
  go_enter Tryd.func6, Tryd.ntmps6
  go_wp2_with fail
  refine c1.mono ?_
  rintro e w1 ⟨rfl, hb1⟩
  have B1 := hide hb1
  have c5 := parse_any _ l 0 w1 (Nat.zero_le _) (by have := HLL.out; omega) HLS.out (HL.out.below hb1 (Nat.le_refl _)) (HG.out.on hb1)
  clear c1 hb1
  go_wp2_with fail
  refine c5.mono ?_
  rintro e w2 ⟨hb2, hp2⟩
  rw [HP.out] at hp2
  have B2 := hide (B1.out.trans (hb2.mono B1.out.size))
  obtain ⟨pw, zs, hzs, rfl, hown⟩ := hp2
  obtain ⟨qa, qcap, hpw, hqc⟩ := own_form3 hown
  have hz5 : zs.length ≤ 500 := by have := parse_len HP.out; rw [← hzs, List.length_map] at this; exact this
  obtain ⟨NZ, hNZ⟩ : ∃ NZ, NZ = zs.length := ⟨_, rfl⟩
  rw [← hNZ] at hpw hz5
  have HNZ := hide hNZ
  have z1 : (NZ : Int) ≤ 500 := by omega
  obtain ⟨M, hM⟩ : ∃ M : Nat, M = l.length - r.length := ⟨_, rfl⟩
  rw [← hM]
  have HM := hide hM
  have m9 : 0 < M := by rw [hM]; omega
  have m1 : M ≤ NL := by rw [hM, HNL.out]; omega
  have m2 : (M : Int) ≤ (NL : Int) := by omega
  have m3 : (M : Int) ≤ (lcap : Int) := by omega
  have m0 : (0 : Int) ≤ (M : Int) := by omega
  have HOWN := hide hown
  have HZS := hide hzs
  subst hpw
  have HL2 := hide (HL.out.below B2.out (Nat.le_refl _))
  have HTB := hide (fun y hy => take_back HP.out y hy)
  clear c5 hb2 hown hNZ hzs hM hqc B1
  obtain ⟨Y, hY⟩ : ∃ Y, Y = five5[I]'hI5 := ⟨_, rfl⟩
  have HY : Hid (Y ∈ five5) := by rw [hY]; exact List.getElem_mem _
  have f0 := five_cell w2 (.cells #[.int .i64 0, .int .i64 0] 27) I 0 hI5 (by decide)
  have f1 := five_cell w2 (.cells #[.int .i64 0, .int .i64 0] 27) I 1 hI5 (by decide)
  have f2 := five_cell w2 (.cells #[.int .i64 0, .int .i64 0] 27) I 2 hI5 (by decide)
  have f3 := five_cell w2 (.cells #[.int .i64 0, .int .i64 0] 27) I 3 hI5 (by decide)
  have f4 := five_cell w2 (.cells #[.int .i64 0, .int .i64 0] 27) I 4 hI5 (by decide)
  rw [← hY] at f0 f1 f2 f3 f4
  simp only [tvC, List.getElem?_cons_zero, List.getElem?_cons_succ, Nat.add_zero] at f0 f1 f2 f3 f4
  clear hY
  obtain ⟨X, hX⟩ : ∃ X, X = ((w2.alloc (.cells #[.int .i64 0, .int .i64 0] 27)).alloc (.cells #[.int .i64 3, .string ⟨#[59]⟩, .int .i64 0, .int .i64 0, .int .i64 0, .int .i64 1, .string ⟨#[84, 72, 69, 78]⟩, .int .i64 0, .int .i64 0, .int .i64 0, .int .i64 3, .string ⟨#[41]⟩, .int .i64 0, .int .i64 0, .int .i64 0, .int .i64 2, .string ⟨#[]⟩, .int .i64 5, .int .i64 0, .int .i64 0, .int .i64 4, .string ⟨#[]⟩, .int .i64 0, .int .i64 0, .int .i64 0] 44)).alloc (.cells #[.int .i64 Y.k, .string Y.s, .int .i64 Y.n, .int .i64 Y.t, .int .i64 Y.at_] 44) := ⟨_, rfl⟩
  have hXz : X.heap.size = w2.heap.size + 3 := by rw [hX]; simp
  have hX2 : Below w2.heap.size w2 X := by rw [hX]; exact (((Below.refl _ _).alloc (Nat.le_refl _) _).alloc (by simp) _).alloc (by simp; omega) _
  have hXc : X.heap[w2.heap.size + 1 + 1]? = some (.cells #[.int .i64 Y.k, .string Y.s, .int .i64 Y.n, .int .i64 Y.t, .int .i64 Y.at_] 44) := by
    rw [hX]
    have := heap_alloc_new ((w2.alloc (.cells #[.int .i64 0, .int .i64 0] 27)).alloc (.cells #[.int .i64 3, .string ⟨#[59]⟩, .int .i64 0, .int .i64 0, .int .i64 0, .int .i64 1, .string ⟨#[84, 72, 69, 78]⟩, .int .i64 0, .int .i64 0, .int .i64 0, .int .i64 3, .string ⟨#[41]⟩, .int .i64 0, .int .i64 0, .int .i64 0, .int .i64 2, .string ⟨#[]⟩, .int .i64 5, .int .i64 0, .int .i64 0, .int .i64 4, .string ⟨#[]⟩, .int .i64 0, .int .i64 0, .int .i64 0] 44)) (.cells #[.int .i64 Y.k, .string Y.s, .int .i64 Y.n, .int .i64 Y.t, .int .i64 Y.at_] 44)
    rw [World.size_alloc, World.size_alloc] at this
    exact this
  have HX := hide hX
  have S0 : Held X X := Below.refl _ _
  have HK : Hid (∀ W, Held X W → ∀ j, W.cell? ⟨w2.heap.size + 1 + 1, j, none⟩ = (#[Value.int .i64 Y.k, .string Y.s, .int .i64 Y.n, .int .i64 Y.t, .int .i64 Y.at_])[j]?) := fun W h j => (h.cell (p := ⟨w2.heap.size + 1 + 1, j, none⟩) (by show w2.heap.size + 1 + 1 < _; omega)).trans (Lib.cell_of_heap hXc j)
  have k0 := fun W h => HK.out W h 0
  have k1 := fun W h => HK.out W h 1
  have k2 := fun W h => HK.out W h 2
  have k3 := fun W h => HK.out W h 3
  have k4 := fun W h => HK.out W h 4
  simp only [List.getElem?_toArray, List.getElem?_cons_succ, List.getElem?_cons_zero] at k0 k1 k2 k3 k4
  have K0 := hide k0
  have K1 := hide k1
  have K2 := hide k2
  have K3 := hide k3
  have K4 := hide k4
  have SS : (X.cell? ⟨w2.heap.size + 1 + 1, 0, none⟩ = some (.int .i64 Y.k) ∧ X.cell? ⟨w2.heap.size + 1 + 1, 1, none⟩ = some (.string Y.s) ∧ X.cell? ⟨w2.heap.size + 1 + 1, 2, none⟩ = some (.int .i64 Y.n) ∧ X.cell? ⟨w2.heap.size + 1 + 1, 3, none⟩ = some (.int .i64 Y.t) ∧ X.cell? ⟨w2.heap.size + 1 + 1, 4, none⟩ = some (.int .i64 Y.at_)) ∧ Held X X := ⟨⟨k0 X S0, k1 X S0, k2 X S0, k3 X S0, k4 X S0⟩, S0⟩
  have HLX : Hid (Lst X (.slice (some ⟨lb, lo, none⟩) M lcap) (l.take M)) := by
    obtain ⟨a2, b2, o2, c2, hv, hA2, hT2⟩ := HL2.out.below hX2 (Nat.le_refl _)
    injection hv with e1 e2 e3
    subst e1 e3
    have hML : (l.take M).length = M := by rw [List.length_take]; have := HNL.out; omega
    refine ⟨_, b2, o2, _, by rw [hML], fun h => hA2 (by rw [hML] at h; have := HNL.out; omega), fun i x hx => hT2 i x ?_⟩
    rw [List.getElem?_take] at hx
    split at hx
    · exact hx
    · cases hx
  have HML : Hid (M = (l.take M).length) := by show _ = _; rw [List.length_take]; have := HNL.out; omega
  have m10 : M ≤ 3000000000000 := by have := HLL.out; have := HNL.out; omega
  have m11 : M ≤ 2932031007403 := by have := HLL.out; have := HNL.out; omega
  have C9 : Hid (∀ (W : World) (V : Value) (g cap : Nat), V = .slice (some ⟨g, 0, none⟩) (M + 1) cap → W.ownsRow X.heap.size 44 5 (.slice (some ⟨g, 0, none⟩) (M + 1) cap) (M + 1) (tvsC (l.take M ++ [Y])) → Held X W → Calls Tryd.prog 9 #[V, .int .i64 0] W fun e W' => (∃ pa pcap, e = .returned (.tuple #[.slice pa NZ pcap, .int .i64 (M : Int), .agg #[.int .i64 0, .int .i64 0]]) ∧ W'.ownsRow W.heap.size 46 5 (.slice pa NZ pcap) zs.length (pvsC zs)) ∧ Below W.heap.size W W' ∧ Held X W') := by
    intro W V g cap hV hown hH
    subst hV
    have hlen2 : (l.take M ++ [Y]).length = M + 1 := by rw [List.length_append, ← HML.out]; rfl
    have hLW : Lst W (.slice (some ⟨g, 0, none⟩) (M + 1) cap) (l.take M ++ [Y]) := Lst.of_owns (base := X.heap.size) (by rw [hlen2]; exact hown)
    have hpa := (HTB.out Y HY.out).2
    rw [← HM.out] at hpa
    have c := parse_any _ (l.take M ++ [Y]) 0 W (Nat.zero_le _) (by rw [hlen2]; omega) (fun i => by
      unfold tokAt
      rw [List.getD_eq_getElem?_getD]
      cases hq : (l.take M ++ [Y])[i]? with
      | none => decide
      | some y =>
        rcases List.mem_append.1 (List.mem_of_getElem? hq) with h | h
        · obtain ⟨j, hj⟩ := List.mem_iff_getElem?.1 (List.mem_of_mem_take h)
          have := HLS.out j
          unfold tokAt at this
          rw [List.getD_eq_getElem?_getD, hj] at this
          exact this
        · rw [List.mem_singleton.1 h]
          have hall : ∀ y ∈ five5, y.s.size ≤ 140737488355000 := by decide
          exact hall Y HY.out) hLW (HG.out.on (B2.out.trans ((hX2.trans (Below.mono hH hX2.size)).mono B2.out.size)))
    refine c.mono fun e W' h => ?_
    obtain ⟨hb, h⟩ := h
    rw [hpa] at h
    obtain ⟨pv, xs, hxs, rfl, hown2⟩ := h
    have hxe : xs = zs := by rw [pvs_back hxs, ← pvs_back HZS.out]
    subst hxe
    obtain ⟨pa, pcap, hpv, _⟩ := own_form3 hown2
    rw [← HNZ.out] at hpv
    subst hpv
    refine ⟨⟨pa, pcap, ?_, hown2⟩, hb, Held.call hH hb⟩
    rw [hlen2, show M + 1 - [tkV Y].length = M from rfl]
  have HPX := hide (PLst.own HOWN.out hX2)
  have HF : Hid (∀ W, Held X W → Below w.heap.size w W) := fun W h => (B2.out.trans (hX2.mono B2.out.size)).trans (Below.mono h (B2.out.trans (hX2.mono B2.out.size)).size)
  have C11 : Hid (∀ (W : World) (pa : Option Addr) (pcap : Nat), Held X W → PLst W (.slice pa NZ pcap) zs → Calls Tryd.prog 11 #[.slice qa NZ qcap, .slice pa NZ pcap] W fun e W' => e = .returned (.bool true) ∧ Held X W') := fun W pa pcap hH hP =>
    (sameParts_any _ _ zs zs W (HPX.out.below hH (Nat.le_refl _)) hP (by rw [← HNZ.out]; omega) (by rw [← HNZ.out]; omega)).mono fun e W' ⟨⟨bb, h1, h2⟩, h3⟩ => ⟨by rw [h1, h2.2 rfl], Held.call hH h3⟩
  clear k0 k1 k2 k3 k4 HK hX hXc hXz hX2
  go_wp2
  rw [← HX.out]
  clear HX f0 f1 f2 f3 f4
  have EQ : w2.heap.size + 1 + 1 = w2.heap.size + 2 := rfl
  go_region_held3 (fun W => (W.cell? ⟨w2.heap.size + 1 + 1, 0, none⟩ = some (.int .i64 Y.k) ∧ W.cell? ⟨w2.heap.size + 1 + 1, 1, none⟩ = some (.string Y.s) ∧ W.cell? ⟨w2.heap.size + 1 + 1, 2, none⟩ = some (.int .i64 Y.n) ∧ W.cell? ⟨w2.heap.size + 1 + 1, 3, none⟩ = some (.int .i64 Y.t) ∧ W.cell? ⟨w2.heap.size + 1 + 1, 4, none⟩ = some (.int .i64 Y.at_)) ∧ Held X W) (first | assumption | (focus ((repeat (first | (with_reducible assumption) | ((with_reducible apply and_right'); (with_reducible assumption)) | (with_reducible refine Held.alloc ?_ _) | (with_reducible refine Held.drew ?_) | ((with_reducible apply Held.set1); (focus (first | (exact Nat.le_refl _) | (exact Held.big (by with_reducible assumption)) | omega | (have z9 := Held.big hh9; omega) | (have z7 := Held.big hh7; omega) | fail))) | ((with_reducible apply Held.call'); (focus (with_reducible assumption))))); done)) | ((with_reducible refine K0.out _ ?_); (focus ((repeat (first | (with_reducible assumption) | ((with_reducible apply and_right'); (with_reducible assumption)) | (with_reducible refine Held.alloc ?_ _) | (with_reducible refine Held.drew ?_) | ((with_reducible apply Held.set1); (focus (first | (exact Nat.le_refl _) | (exact Held.big (by with_reducible assumption)) | omega | (have z9 := Held.big hh9; omega) | (have z7 := Held.big hh7; omega) | fail))) | ((with_reducible apply Held.call'); (focus (with_reducible assumption))))); done))) | ((with_reducible refine K1.out _ ?_); (focus ((repeat (first | (with_reducible assumption) | ((with_reducible apply and_right'); (with_reducible assumption)) | (with_reducible refine Held.alloc ?_ _) | (with_reducible refine Held.drew ?_) | ((with_reducible apply Held.set1); (focus (first | (exact Nat.le_refl _) | (exact Held.big (by with_reducible assumption)) | omega | (have z9 := Held.big hh9; omega) | (have z7 := Held.big hh7; omega) | fail))) | ((with_reducible apply Held.call'); (focus (with_reducible assumption))))); done))) | ((with_reducible refine K2.out _ ?_); (focus ((repeat (first | (with_reducible assumption) | ((with_reducible apply and_right'); (with_reducible assumption)) | (with_reducible refine Held.alloc ?_ _) | (with_reducible refine Held.drew ?_) | ((with_reducible apply Held.set1); (focus (first | (exact Nat.le_refl _) | (exact Held.big (by with_reducible assumption)) | omega | (have z9 := Held.big hh9; omega) | (have z7 := Held.big hh7; omega) | fail))) | ((with_reducible apply Held.call'); (focus (with_reducible assumption))))); done))) | ((with_reducible refine K3.out _ ?_); (focus ((repeat (first | (with_reducible assumption) | ((with_reducible apply and_right'); (with_reducible assumption)) | (with_reducible refine Held.alloc ?_ _) | (with_reducible refine Held.drew ?_) | ((with_reducible apply Held.set1); (focus (first | (exact Nat.le_refl _) | (exact Held.big (by with_reducible assumption)) | omega | (have z9 := Held.big hh9; omega) | (have z7 := Held.big hh7; omega) | fail))) | ((with_reducible apply Held.call'); (focus (with_reducible assumption))))); done))) | ((with_reducible refine K4.out _ ?_); (focus ((repeat (first | (with_reducible assumption) | ((with_reducible apply and_right'); (with_reducible assumption)) | (with_reducible refine Held.alloc ?_ _) | (with_reducible refine Held.drew ?_) | ((with_reducible apply Held.set1); (focus (first | (exact Nat.le_refl _) | (exact Held.big (by with_reducible assumption)) | omega | (have z9 := Held.big hh9; omega) | (have z7 := Held.big hh7; omega) | fail))) | ((with_reducible apply Held.call'); (focus (with_reducible assumption))))); done))) | (refine ⟨⟨K0.out _ ?_, K1.out _ ?_, K2.out _ ?_, K3.out _ ?_, K4.out _ ?_⟩, ?_⟩ <;> (focus ((repeat (first | (with_reducible assumption) | ((with_reducible apply and_right'); (with_reducible assumption)) | (with_reducible refine Held.alloc ?_ _) | (with_reducible refine Held.drew ?_) | ((with_reducible apply Held.set1); (focus (first | (exact Nat.le_refl _) | (exact Held.big (by with_reducible assumption)) | omega | (have z9 := Held.big hh9; omega) | (have z7 := Held.big hh7; omega) | fail))) | ((with_reducible apply Held.call'); (focus (with_reducible assumption))))); done)))) (first | (refine step_first rfl _ _ rfl X _ ⟨lb, lo, none⟩ M lcap (l.take M) (by rfl) (by rfl) HLX.out HML.out m9 m10 (by (focus ((repeat (first | (with_reducible assumption) | ((with_reducible apply and_right'); (with_reducible assumption)) | (with_reducible refine Held.alloc ?_ _) | (with_reducible refine Held.drew ?_) | ((with_reducible apply Held.set1); (focus (first | (exact Nat.le_refl _) | (exact Held.big (by with_reducible assumption)) | omega | (have z9 := Held.big hh9; omega) | (have z7 := Held.big hh7; omega) | fail))) | ((with_reducible apply Held.call'); (focus (with_reducible assumption))))); done))) ?_; intro g7 cap7 w7 hown7 hb7 hh7 hg7 hlt7; (try simp at hg7); have HG7 := hide hg7; have HLT7 := hide hlt7; clear hg7 hlt7) | (refine step_second rfl _ _ rfl X g7 M cap7 (l.take M) _ Y (by rfl) (by rfl) (by (focus ((repeat (first | (with_reducible assumption) | (with_reducible refine own_alloc ?_ _) | (with_reducible refine own_drew ?_))); done))) (by (focus ((repeat (first | (with_reducible assumption) | (refine tvsC_cells _ ?_ _ ?_ _ ?_ <;> first | rfl | (simp; done)) | (with_reducible refine Lst.alloc ?_ _) | (with_reducible refine Lst.drew ?_) | ((with_reducible apply Lst.call'); (focus (with_reducible assumption))))); done))) HML.out m11 (by (focus ((repeat (first | (with_reducible assumption) | ((with_reducible apply and_right'); (with_reducible assumption)) | (with_reducible refine Held.alloc ?_ _) | (with_reducible refine Held.drew ?_) | ((with_reducible apply Held.set1); (focus (first | (exact Nat.le_refl _) | (exact Held.big (by with_reducible assumption)) | omega | (have z9 := Held.big hh9; omega) | (have z7 := Held.big hh7; omega) | fail))) | ((with_reducible apply Held.call'); (focus (with_reducible assumption))))); done))) ?_; intro g8 cap8 w8 hown8 hh8 hk8) | (go_at_call 9; refine (C9.out _ _ g8 cap8 ?_ ?_ ?_).mono ?_; (focus rfl); (focus (focus ((repeat (first | (with_reducible assumption) | (with_reducible refine own_alloc ?_ _) | (with_reducible refine own_drew ?_))); done))); (focus (focus ((repeat (first | (with_reducible assumption) | ((with_reducible apply and_right'); (with_reducible assumption)) | (with_reducible refine Held.alloc ?_ _) | (with_reducible refine Held.drew ?_) | ((with_reducible apply Held.set1); (focus (first | (exact Nat.le_refl _) | (exact Held.big (by with_reducible assumption)) | omega | (have z9 := Held.big hh9; omega) | (have z7 := Held.big hh7; omega) | fail))) | ((with_reducible apply Held.call'); (focus (with_reducible assumption))))); done))); rintro e w9 ⟨⟨pa, pcap, rfl, hown9⟩, hb9, hh9⟩; (try (first | ((refine kept27 (b := X.heap.size) hb9 ?_ ?_); (focus ((repeat (first | ((with_reducible apply lk_new); (simp; done)) | (with_reducible apply lk_alloc) | (with_reducible apply lk_drew) | ((with_reducible apply lk_call); (focus (with_reducible assumption))) | ((with_reducible apply lk_grow); (focus (with_reducible assumption)); (focus (have e1 := HG7.out; have e2 := HLT7.out; omega))) | fail)); done)); intro q0 q1 q2 q3 hbw) | ((refine kept27 (b := X.heap.size + 1) hb9 ?_ ?_); (focus ((repeat (first | ((with_reducible apply lk_new); (simp; done)) | (with_reducible apply lk_alloc) | (with_reducible apply lk_drew) | ((with_reducible apply lk_call); (focus (with_reducible assumption))) | ((with_reducible apply lk_grow); (focus (with_reducible assumption)); (focus (have e1 := HG7.out; have e2 := HLT7.out; omega))) | fail)); done)); intro q0 q1 q2 q3 hbw) | ((refine kept27 (b := X.heap.size + 2) hb9 ?_ ?_); (focus ((repeat (first | ((with_reducible apply lk_new); (simp; done)) | (with_reducible apply lk_alloc) | (with_reducible apply lk_drew) | ((with_reducible apply lk_call); (focus (with_reducible assumption))) | ((with_reducible apply lk_grow); (focus (with_reducible assumption)); (focus (have e1 := HG7.out; have e2 := HLT7.out; omega))) | fail)); done)); intro q0 q1 q2 q3 hbw) | ((refine kept27 (b := X.heap.size + 1 + 1) hb9 ?_ ?_); (focus ((repeat (first | ((with_reducible apply lk_new); (simp; done)) | (with_reducible apply lk_alloc) | (with_reducible apply lk_drew) | ((with_reducible apply lk_call); (focus (with_reducible assumption))) | ((with_reducible apply lk_grow); (focus (with_reducible assumption)); (focus (have e1 := HG7.out; have e2 := HLT7.out; omega))) | fail)); done)); intro q0 q1 q2 q3 hbw) | ((refine kept27 (b := w7.heap.size) hb9 ?_ ?_); (focus ((repeat (first | ((with_reducible apply lk_new); (simp; done)) | (with_reducible apply lk_alloc) | (with_reducible apply lk_drew) | ((with_reducible apply lk_call); (focus (with_reducible assumption))) | ((with_reducible apply lk_grow); (focus (with_reducible assumption)); (focus (have e1 := HG7.out; have e2 := HLT7.out; omega))) | fail)); done)); intro q0 q1 q2 q3 hbw) | ((refine kept27 (b := w7.heap.size + 1) hb9 ?_ ?_); (focus ((repeat (first | ((with_reducible apply lk_new); (simp; done)) | (with_reducible apply lk_alloc) | (with_reducible apply lk_drew) | ((with_reducible apply lk_call); (focus (with_reducible assumption))) | ((with_reducible apply lk_grow); (focus (with_reducible assumption)); (focus (have e1 := HG7.out; have e2 := HLT7.out; omega))) | fail)); done)); intro q0 q1 q2 q3 hbw) | ((refine kept27 (b := w8.heap.size) hb9 ?_ ?_); (focus ((repeat (first | ((with_reducible apply lk_new); (simp; done)) | (with_reducible apply lk_alloc) | (with_reducible apply lk_drew) | ((with_reducible apply lk_call); (focus (with_reducible assumption))) | ((with_reducible apply lk_grow); (focus (with_reducible assumption)); (focus (have e1 := HG7.out; have e2 := HLT7.out; omega))) | fail)); done)); intro q0 q1 q2 q3 hbw) | fail))))
  all_goals
    clear K0 K1 K2 K3 K4 SS HLX C9 HTB
    go_wp2_with fail
    refine (C11.out _ _ _ ?_ ?_).mono ?_
    · (focus ((repeat (first | (with_reducible assumption) | ((with_reducible apply and_right'); (with_reducible assumption)) | (with_reducible refine Held.alloc ?_ _) | (with_reducible refine Held.drew ?_) | ((with_reducible apply Held.set1); (focus (first | (exact Nat.le_refl _) | (exact Held.big (by with_reducible assumption)) | omega | (have z9 := Held.big hh9; omega) | (have z7 := Held.big hh7; omega) | fail))) | ((with_reducible apply Held.call'); (focus (with_reducible assumption))))); done))
    · first | (exact PLst.own hown9 ((Below.refl w9.heap.size w9).alloc (Nat.le_refl _) _)) | (focus ((with_reducible apply PLst.of_owns); ((repeat (first | (with_reducible assumption) | (with_reducible refine own_alloc ?_ _) | (with_reducible refine own_drew ?_) | ((with_reducible apply own_set1); (focus (with_reducible assumption))) | fail)); done)))
    rintro e w11 ⟨rfl, hh11⟩
    have HH11 := hide hh11
    clear hh11
    go_wp2
    go_ret
    exact ⟨rfl, HF.out _ HH11.out⟩
end Go.Proofs.YtkicbmjjbnblfaaDoor
