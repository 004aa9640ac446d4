/- The contract of the document's Tokens. | The contract of the book's SameTokens, at one list. | The contracts of the book's LendParts and KeptParts. -/
import Derived.Test.YtkicbmjjbnblfaaGreatDoorQuA
import Derived.Test.YtkicbmjjbnblfaaGreatDoorPlA
import Derived.Test.YtkicbmjjbnblfaaGreatDoorSpA
import Derived.Test.YtkicbmjjbnblfaaGreatDoorFrmP
import Derived.Test.YtkicbmjjbnblfaaGreatDoorRpA
import Derived.Deep.AppendLies
namespace Go.Proofs.YtkicbmjjbnblfaaGreatDoor
open Go.RowKit Go.Lib
set_option maxRecDepth 100000 in
set_option maxHeartbeats 1600000 in
theorem qTokens_bad (v : Value) (x : List Pv) (w : World) (hL : PLst w v x) (hlen : x.length ≤ 4398046510976) (hc : checkP (x.map ptV) ≠ 0) : Calls Tryz.prog 6 #[v] w fun e w' => e = .returned (.tuple #[.slice none 0 0, .int .i64 (checkP (x.map ptV))]) ∧ Below w.heap.size w w' := by
  have c1 := qCheck_any v x w hL hlen
  obtain ⟨a, b, off, cap, rfl, _, _⟩ := hL
  obtain ⟨C, hC⟩ : ∃ C, C = checkP (x.map ptV) := ⟨_, rfl⟩
  rw [← hC] at c1 hc ⊢
  have i1 : (C == 0) = false := by rw [beq_eq_false_iff_ne]; exact hc
  generalize x.length = N at *
  clear hC hc hlen
  go_enter Tryz.func6, Tryz.ntmps6
  go_wp2_with fail
  refine c1.mono ?_
  rintro e w1 ⟨rfl, hb1⟩
  have B1 := hide hb1
  clear c1 hb1
  go_wp2
  go_ret2
  exact ⟨rfl, B1.out⟩
set_option maxRecDepth 100000 in
set_option maxHeartbeats 1600000 in
theorem qTokens_ok (v : Value) (x : List Pv) (w : World) (hL : PLst w v x) (hlen : x.length ≤ 4398046510976) (hc : checkP (x.map ptV) = 0) (ex : Ex) (hw : well ex) (hf : flat ex = x.map ptV) : Calls Tryz.prog 6 #[v] w fun e w' => ∃ u, e = .returned (.tuple #[u, .int .i64 0]) ∧ Lst w' u ((showE ex false).map tz) ∧ Below w.heap.size w w' := by
  have c1 := qCheck_any v x w hL hlen
  have h5 := (check_parts hc).1
  rw [List.length_map] at h5
  rw [hc] at c1
  have CS : Hid (∀ W, Below w.heap.size w W → Calls Tryz.prog 19 #[v, .int .i64 ((x.length : Int) - 1), .bool false] W (RowPost W ((showE ex false).map tz))) := fun W hW => by
    have h := qshow_any ex hw v x W (hL.below hW (Nat.le_refl _)) h5 [] [] (by rw [hf]; simp) false
    have e : (([] : List Pt).length + (flat ex).length : Nat) = x.length := by rw [hf, List.length_map]; show 0 + _ = _; omega
    rw [e] at h
    exact h
  obtain ⟨a, b, off, cap, rfl, _, _⟩ := hL
  generalize (showE ex false).map tz = T at *
  generalize x.length = N at *
  have n5 : (N : Int) ≤ 500 := by omega
  clear hlen hw hf hc
  go_enter Tryz.func6, Tryz.ntmps6
  go_wp2_with fail
  refine c1.mono ?_
  rintro e w1 ⟨rfl, hb1⟩
  have B1 := hide hb1
  clear c1 hb1
  go_wp2_with fail
  refine (CS.out _ B1.out).mono ?_
  rintro e w2 ⟨u, rfl, hu, hb2⟩
  have B2 := hide (below_then B1.out hb2)
  have LU := hide (Lst.of_owns hu)
  clear hu hb2 CS
  go_wp2
  go_ret2
  exact ⟨u, rfl, LU.out, B2.out⟩
end Go.Proofs.YtkicbmjjbnblfaaGreatDoor
namespace Go.Proofs.YtkicbmjjbnblfaaGreatDoor
open Go.RowKit
theorem neq_one (k : Int) (s : ByteArray) (n t a : Int) (W : World) : (binOp .neq 54 (.agg #[.int .i64 k, .string s, .int .i64 n, .int .i64 t, .int .i64 a]) (.agg #[.int .i64 k, .string s, .int .i64 n, .int .i64 t, .int .i64 a])).run Tryz.prog W = .ok (.bool false) W := by
  simp [go_sem]
set_option maxRecDepth 100000 in
set_option maxHeartbeats 3200000 in
theorem bsame_one (va vb : Value) (la : List Tv) (w : World) (ha : Lst w va la) (hb : Lst w vb la) (hla : la.length ≤ 1048576) :
    Calls Tryz.prog 11 #[va, vb] w fun e w' => e = .returned (.bool true) ∧ Below w.heap.size w w' := by
  obtain ⟨a, b, off, cap, rfl, hA, hI⟩ := ha
  obtain ⟨a2, b2, off2, cap2, rfl, hA2, hI2⟩ := hb
  have HA := hide hA
  have HI := hide hI
  have HA2 := hide hA2
  have HI2 := hide hI2
  obtain ⟨N, hN⟩ : ∃ N, N = la.length := ⟨_, rfl⟩
  have HN := hide hN
  rw [← hN]
  have l0 : (N : Int) ≤ 1048576 := by omega
  clear hN hA hI hA2 hI2 hla
  go_enter Tryz.func11, Tryz.ntmps11
  go_wp2_with fail
  go_loopw [5] (fun i wr => ∃ k : Nat, k ≤ N ∧ i = .int .i64 (k : Int) ∧ Hid (Below w.heap.size w wr)) (fun i _ => N - (intOf i).toNat)
  case atStart => exact ⟨0, by omega, rfl, Below.refl _ _⟩
  case round =>
    obtain ⟨k, hk, rfl, hh⟩ := hrel
    have HB := hide hh.out
    by_cases hlt : k < N
    · have j1 : (k : Int) < (N : Int) := by omega
      have j0 : (0 : Int) ≤ (k : Int) := by omega
      obtain ⟨x, hx⟩ : ∃ x, la[k]? = some x := ⟨_, List.getElem?_eq_getElem (by rw [← HN.out]; exact hlt)⟩
      obtain ⟨hbw, rfl⟩ := HA.out (by rw [← HN.out]; omega)
      obtain ⟨hbw2, rfl⟩ := HA2.out (by rw [← HN.out]; omega)
      obtain ⟨q0, q1, q2, q3, q4⟩ := HI.out k x hx
      obtain ⟨r0, r1, r2, r3, r4⟩ := HI2.out k x hx
      have c0 := (HB.out.cell (p := ⟨b, off + k * 5, none⟩) hbw).trans q0
      have c1 := (HB.out.cell (p := ⟨b, off + k * 5 + 1, none⟩) hbw).trans q1
      have c2 := (HB.out.cell (p := ⟨b, off + k * 5 + 2, none⟩) hbw).trans q2
      have c3 := (HB.out.cell (p := ⟨b, off + k * 5 + 3, none⟩) hbw).trans q3
      have c4 := (HB.out.cell (p := ⟨b, off + k * 5 + 4, none⟩) hbw).trans q4
      have d0 := (HB.out.cell (p := ⟨b2, off2 + k * 5, none⟩) hbw2).trans r0
      have d1 := (HB.out.cell (p := ⟨b2, off2 + k * 5 + 1, none⟩) hbw2).trans r1
      have d2 := (HB.out.cell (p := ⟨b2, off2 + k * 5 + 2, none⟩) hbw2).trans r2
      have d3 := (HB.out.cell (p := ⟨b2, off2 + k * 5 + 3, none⟩) hbw2).trans r3
      have d4 := (HB.out.cell (p := ⟨b2, off2 + k * 5 + 4, none⟩) hbw2).trans r4
      obtain ⟨x0, x1, x2, x3, x4⟩ := x
      simp only [] at c0 c1 c2 c3 c4 d0 d1 d2 d3 d4
      have hq := neq_one
      clear q0 q1 q2 q3 q4 r0 r1 r2 r3 r4 hx hh
      go_wp2
      go_quiet (fail)
      go_wp2
      go_roundw
      case rel => exact ⟨k + 1, by omega, by go_num, below_drawn HB.out _⟩
      case measure => simp [intOf]; omega
    · clear hh
      go_wp2
      go_ret
      exact ⟨rfl, HB.out⟩
end Go.Proofs.YtkicbmjjbnblfaaGreatDoor
namespace Go.Proofs.YtkicbmjjbnblfaaGreatDoor
open Go.RowKit
/-- a list that came in whole -/
def OkS (l : List Pv) : Prop := l.length * 56 ≤ 140737488351232 ∧ True
def markT : Pv := ⟨-77, 0, 0, ⟨#[]⟩, ⟨#[]⟩⟩
theorem owns_zero {w : World} {base e size n c : Nat} {a : Option Addr} {xs : List Value} (h : w.ownsRow base e size (.slice a (0 + n) c) (0 + n) ([] ++ xs)) : w.ownsRow base e size (.slice a n c) n xs := by simpa using h
theorem owns_cap {w : World} {base e size n c g : Nat} {xs : List Value} (h : w.ownsRow base e size (.slice (some ⟨g, 0, none⟩) n c) n xs) : n ≤ c := by
  rcases h.2 with ⟨h0, _⟩ | ⟨g', cap, cur, hv, _, _, hn, _⟩
  · cases h0
  · injection hv with _ _ h3; omega
/-- what is lent -/
def LendOut (l : List Pv) (w : World) (e : Ending) (w' : World) : Prop :=
  ∃ g cap, e = .returned (.slice (some ⟨g, 0, none⟩) l.length cap) ∧ l.length + 1 ≤ cap ∧ w'.ownsRow w.heap.size 39 5 (.slice (some ⟨g, 0, none⟩) (l.length + 1) cap) (l.length + 1) (pvsC (l ++ [markT])) ∧ Below w.heap.size w w'
set_option maxRecDepth 100000 in
set_option maxHeartbeats 3200000 in
theorem lend_any (v : Value) (l : List Pv) (w : World) (hL : PLst w v l) (ho : OkS l) :
    Calls Tryz.prog 4 #[v] w (LendOut l w) := by
  obtain ⟨i0, hi, hz0, hz1, hz2⟩ := info_parts in44
  obtain ⟨a, b, off, cap, rfl, hA, hI⟩ := hL
  have hlen := ho.1
  have l0 : (l.length : Int) ≤ 2600000000000 := by omega
  by_cases hn : 0 < l.length
  · obtain ⟨hbw, rfl⟩ := hA hn
    have hcs : ∀ W, Below w.heap.size w W → ∀ j u, (pvsC l)[j]? = some u → W.cell? ((⟨b, off, none⟩ : Addr).add j) = some u := fun W hb j u hu => by
      have h := pv_cells hI j u hu
      rw [Addr.add_mid] at h ⊢
      exact (hb.cell (p := ⟨b, off + j, none⟩) hbw).trans h
    have HC := hide hcs
    have HI1 := hide (pvsC_one l)
    have HCL := hide (pvsC_length l)
    clear hcs hA hI ho
    obtain ⟨N, hN⟩ : ∃ N, N = l.length := ⟨_, rfl⟩
    have HN := hide hN
    rw [← hN] at hlen l0 hn HCL ⊢
    have j0 : (0 : Int) ≤ (N : Int) := by omega
    have hst : (w.alloc (.cells #[] 39)).ownsRow w.heap.size 39 5 (.slice (some ⟨w.heap.size, 0, none⟩) 0 0) 0 [] := World.ownsRow_made w #[] 0 (Nat.le_refl _) (by unfold maxLen; omega) rfl
    clear hN
    go_enter Tryz.func4, Tryz.ntmps4
    have HST := hide hst
    have HW0 : Hid (Below w.heap.size w (w.alloc (.cells #[] 39))) := (Below.refl _ _).alloc (Nat.le_refl _) _
    clear hst
    go_wp2_with (at_builtin; first
      | (refine wpList_append_lies _ (by rfl) _ _ _ (by rfl) w.heap.size 39 i0 _ 5 56 Tryz.underlying22 hi hz0 hz1 hz2 rfl (by omega) (.slice (some ⟨w.heap.size, 0, none⟩) 0 0) 0 [] (by rfl) HST.out ⟨b, off, none⟩ N cap (pvsC l) (by rfl) HCL.out (HC.out _ HW0.out) HI1.out hn (by unfold maxLen; omega) (by omega) (by simp) (w.heap.size + 1) (by simp) ?_; intro g1 cap1 w1 hown1 hgrow1 hat1 hlt1; have z1 : w.heap.size + 1 ≤ w1.heap.size := Nat.le_trans (by simp) hgrow1.size; have O1 := hide (owns_zero hown1); have B1 := hide (HW0.out.grown hgrow1 (by simp) (fun r hr => (HST.out.lt r hr).1)); clear hown1 hgrow1 hat1 hlt1)
      | (refine wpList_append_lies _ (by rfl) _ _ _ (by rfl) w.heap.size 39 i0 _ 5 56 Tryz.underlying22 hi hz0 hz1 hz2 rfl (by omega) (.slice (some ⟨g1, 0, none⟩) N cap1) N _ (by rfl) (O1.out.alloc _) ⟨w1.heap.size, 0, none⟩ 1 1 [.int .i64 (-77), .int .i64 0, .int .i64 0, .string ⟨#[]⟩, .string ⟨#[]⟩] (by rfl) (by rfl) (World.news_of_block (cs := #[.int .i64 (-77), .int .i64 0, .int .i64 0, .string ⟨#[]⟩, .string ⟨#[]⟩]) (t := 39) (fr := (0, 0)) (heap_alloc_new w1 _)) (by simp [Value.oneCell']) (by omega) (by unfold maxLen; omega) (by omega) (by simp; omega) (w1.heap.size + 1) (by simp) ?_; intro g2 cap2 w2 hown2 hgrow2 hat2 hlt2; have hc2 := owns_cap hown2; have i7 : (N : Int) ≤ (cap2 : Int) := (by omega)))
    go_ret
    refine ⟨g2, cap2, by rw [← HN.out]; rfl, by rw [← HN.out]; exact hc2, ?_, ((B1.out.alloc (by omega) _).grown hgrow2 (by simp; omega) (fun r hr => (O1.out.lt r hr).1))⟩
    rw [← HN.out, pvsC_append]
    exact hown2
  · obtain rfl : l = [] := List.eq_nil_of_length_eq_zero (by omega)
    have hst : (w.alloc (.cells #[] 39)).ownsRow w.heap.size 39 5 (.slice (some ⟨w.heap.size, 0, none⟩) 0 0) 0 [] := World.ownsRow_made w #[] 0 (Nat.le_refl _) (by unfold maxLen; omega) rfl
    have HST := hide hst
    clear hA hI ho hst
    cases a with
    | none =>
      go_enter Tryz.func4, Tryz.ntmps4
      go_wp2_with (at_builtin; refine wpList_append_lies _ (by rfl) _ _ _ (by rfl) w.heap.size 39 i0 _ 5 56 Tryz.underlying22 hi hz0 hz1 hz2 rfl (by omega) (.slice (some ⟨w.heap.size, 0, none⟩) 0 0) 0 [] (by rfl) (HST.out.alloc _) ⟨w.heap.size + 1, 0, none⟩ 1 1 [.int .i64 (-77), .int .i64 0, .int .i64 0, .string ⟨#[]⟩, .string ⟨#[]⟩] (by rfl) (by rfl) (World.news_of_block (cs := #[.int .i64 (-77), .int .i64 0, .int .i64 0, .string ⟨#[]⟩, .string ⟨#[]⟩]) (t := 39) (fr := (0, 0)) (alloc2_at w _ _)) (by simp [Value.oneCell']) (by omega) (by unfold maxLen; omega) (by omega) (by simp; omega) (w.heap.size + 1 + 1) (by simp) ?_; intro g2 cap2 w2 hown2 hgrow2 hat2 hlt2; have hc2 := owns_cap hown2; have i7 : (1 : Int) ≤ (cap2 : Int) := (by omega))
      go_ret
      exact ⟨g2, cap2, rfl, by simpa using hc2, by simpa [pvsC, pvC, markT] using hown2, ((((Below.refl _ _).alloc (Nat.le_refl _) _).alloc (by simp) _).grown hgrow2 (by simp; omega) (fun r hr => (HST.out.lt r hr).1))⟩
    | some a =>
      go_enter Tryz.func4, Tryz.ntmps4
      go_wp2_with (at_builtin; refine wpList_append_lies _ (by rfl) _ _ _ (by rfl) w.heap.size 39 i0 _ 5 56 Tryz.underlying22 hi hz0 hz1 hz2 rfl (by omega) (.slice (some ⟨w.heap.size, 0, none⟩) 0 0) 0 [] (by rfl) (HST.out.alloc _) ⟨w.heap.size + 1, 0, none⟩ 1 1 [.int .i64 (-77), .int .i64 0, .int .i64 0, .string ⟨#[]⟩, .string ⟨#[]⟩] (by rfl) (by rfl) (World.news_of_block (cs := #[.int .i64 (-77), .int .i64 0, .int .i64 0, .string ⟨#[]⟩, .string ⟨#[]⟩]) (t := 39) (fr := (0, 0)) (alloc2_at w _ _)) (by simp [Value.oneCell']) (by omega) (by unfold maxLen; omega) (by omega) (by simp; omega) (w.heap.size + 1 + 1) (by simp) ?_; intro g2 cap2 w2 hown2 hgrow2 hat2 hlt2; have hc2 := owns_cap hown2; have i7 : (1 : Int) ≤ (cap2 : Int) := (by omega))
      go_ret
      exact ⟨g2, cap2, rfl, by simpa using hc2, by simpa [pvsC, pvC, markT] using hown2, ((((Below.refl _ _).alloc (Nat.le_refl _) _).alloc (by simp) _).grown hgrow2 (by simp; omega) (fun r hr => (HST.out.lt r hr).1))⟩
/-- the list that was lent, without its mark -/
theorem lent_list {w : World} {base g cap : Nat} {l : List Pv} (h : w.ownsRow base 39 5 (.slice (some ⟨g, 0, none⟩) (l.length + 1) cap) (l.length + 1) (pvsC (l ++ [markT]))) :
    PLst w (.slice (some ⟨g, 0, none⟩) l.length cap) l ∧ w.cell? ⟨g, l.length * 5, none⟩ = some (.int .i64 (-77)) ∧ g < w.heap.size := by
  have hg : g < w.heap.size := (h.lt g rfl).2
  have key : ∀ i j x, (l ++ [markT])[i]? = some x → j < 5 → w.cell? ⟨g, i * 5 + j, none⟩ = (pvC x)[j]? := fun i j x hx hj => by
    obtain ⟨hi, he⟩ := List.getElem?_eq_some_iff.1 hx
    rw [h.cellAt (i * 5 + j) (by rw [List.length_append] at hi; simp at hi; omega), pvsC_get _ i j hi hj, he]
  refine ⟨⟨some ⟨g, 0, none⟩, g, 0, cap, rfl, fun _ => ⟨hg, rfl⟩, fun i x hx => ?_⟩, ?_, hg⟩
  · have hx' : (l ++ [markT])[i]? = some x := by rw [List.getElem?_append_left (List.getElem?_eq_some_iff.1 hx).1]; exact hx
    rw [Nat.zero_add]
    exact ⟨key i 0 x hx' (by omega), key i 1 x hx' (by omega), key i 2 x hx' (by omega), key i 3 x hx' (by omega), key i 4 x hx' (by omega)⟩
  · exact key l.length 0 markT (by simp) (by omega)
set_option maxRecDepth 100000 in
set_option maxHeartbeats 1600000 in
theorem kept_any (g cap : Nat) (v : Value) (l : List Pv) (w : World) (hL : PLst w (.slice (some ⟨g, 0, none⟩) l.length cap) l) (hV : PLst w v l) (ho : OkS l) (hc : l.length + 1 ≤ cap) (hm : w.cell? ⟨g, l.length * 5, none⟩ = some (.int .i64 (-77))) (hg : g < w.heap.size) :
    Calls Tryz.prog 15 #[.slice (some ⟨g, 0, none⟩) l.length cap, v] w fun e w' => e = .returned (.bool true) ∧ Below w.heap.size w w' := by
  have c1 : Calls Tryz.prog 30 #[.slice (some ⟨g, 0, none⟩) l.length cap, v] w fun e w' => e = .returned (.bool true) ∧ Below w.heap.size w w' := (sameParts_any _ _ l l w hL hV (by have := ho.1; omega) (by have := ho.1; omega)).mono fun e w' h => by
    obtain ⟨⟨bb, rfl, hbb⟩, hb⟩ := h
    rw [hbb.2 rfl]
    exact ⟨rfl, hb⟩
  have l0 := ho.1
  obtain ⟨a, b, off, cap2, rfl, _, _⟩ := hV
  clear hL ho
  generalize l.length = N at *
  have i1 : (N : Int) ≤ 2600000000000 := by omega
  have i2 : (N : Int) + 1 ≤ (cap : Int) := by omega
  have i3 : (0 : Int) ≤ (N : Int) := by omega
  have HM := hide hm
  clear l0 hc hm
  go_enter Tryz.func15, Tryz.ntmps15
  go_wp2_with fail
  refine c1.mono ?_
  rintro e w1 ⟨rfl, hb1⟩
  have d1 : w1.cell? ⟨g, N * 5, none⟩ = some (.int .i64 (-77)) := (hb1.cell (p := ⟨g, N * 5, none⟩) hg).trans HM.out
  have B1 := hide hb1
  clear hb1 c1
  go_wp2
  go_ret
  exact ⟨rfl, B1.out⟩
end Go.Proofs.YtkicbmjjbnblfaaGreatDoor
