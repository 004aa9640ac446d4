/- The contracts of the book's LendItems and KeptItems. -/
import Derived.Test.YtelhfdhgcojmlaaDoorSameW
namespace Go.Proofs.YtelhfdhgcojmlaaDoor
open Go.RowKit
def markIt : It := ⟨false, -77, ⟨#[]⟩⟩
theorem items_cells {w : World} {b off : Nat} {l : List It} (h : ItsAt w b off l) : ∀ j u, (itsC l)[j]? = some u → w.cell? ((⟨b, off, none⟩ : Addr).add j) = some u := fun j u hu => by
  have hj : j < l.length * 3 := by rw [← itsC_length]; exact (List.getElem?_eq_some_iff.1 hu).1
  have hi : j / 3 < l.length := by omega
  have e : (itsC l)[j / 3 * 3 + j % 3]? = (itC l[j / 3])[j % 3]? := itsC_get l (j / 3) (j % 3) hi (by omega)
  rw [show j / 3 * 3 + j % 3 = j from by omega, hu] at e
  obtain ⟨h0, h1, h2⟩ := h (j / 3) _ (List.getElem?_eq_getElem hi)
  rw [Addr.add_mid]
  have hr : j % 3 = 0 ∨ j % 3 = 1 ∨ j % 3 = 2 := by omega
  rcases hr with r | r | r
  · rw [r] at e; rw [show off + j = off + j / 3 * 3 from by omega, h0]; exact e.symm
  · rw [r] at e; rw [show off + j = off + j / 3 * 3 + 1 from by omega, h1]; exact e.symm
  · rw [r] at e; rw [show off + j = off + j / 3 * 3 + 2 from by omega, h2]; exact e.symm
theorem itsC_one (l : List It) : ∀ u ∈ itsC l, u.oneCell' = true := by
  induction l with
  | nil => intro u hu; cases hu
  | cons x l ih =>
    intro u hu
    rcases List.mem_append.1 hu with h | h
    · simp only [itC, List.mem_cons, List.not_mem_nil, or_false] at h
      rcases h with rfl | rfl | rfl <;> rfl
    · exact ih u h
theorem owns_zero {w : World} {base e size n c : Nat} {a : Option Addr} {xs : List Value} (h : w.ownsRow base e size (.slice a (0 + n) c) (0 + n) ([] ++ xs)) : w.ownsRow base e size (.slice a n c) n xs := by simpa using h
theorem owns_cap {w : World} {base e size n c g : Nat} {xs : List Value} (h : w.ownsRow base e size (.slice (some ⟨g, 0, none⟩) n c) n xs) : n ≤ c := by
  rcases h.2 with ⟨h0, _⟩ | ⟨g', cap, cur, hv, _, _, hn, _⟩
  · cases h0
  · injection hv with _ _ h3; omega
/-- what is lent -/
def LendOut (l : List It) (w : World) (e : Ending) (w' : World) : Prop :=
  ∃ g cap, e = .returned (.slice (some ⟨g, 0, none⟩) l.length cap) ∧ l.length + 1 ≤ cap ∧ w'.ownsRow w.heap.size 38 3 (.slice (some ⟨g, 0, none⟩) (l.length + 1) cap) (l.length + 1) (itsC (l ++ [markIt])) ∧ Below w.heap.size w w'
set_option maxRecDepth 100000 in
set_option maxHeartbeats 3200000 in
theorem lend_any (v : Value) (l : List It) (w : World) (hL : Lst w v l) (ho : okL l) :
    Calls Tryd.prog 7 #[v] w (LendOut l w) := by
  obtain ⟨i0, hi, hz0, hz1, hz2⟩ := info_parts in38
  obtain ⟨a, b, off, cap, rfl, hA, hI⟩ := hL
  have hlen := ho.1
  have l0 : (l.length : Int) ≤ 4398046510976 := by omega
  by_cases hn : 0 < l.length
  · obtain ⟨hbw, rfl⟩ := hA hn
    have hcs : ∀ W, Below w.heap.size w W → ∀ j u, (itsC l)[j]? = some u → W.cell? ((⟨b, off, none⟩ : Addr).add j) = some u := fun W hb j u hu => by
      have h := items_cells hI j u hu
      rw [Addr.add_mid] at h ⊢
      exact (hb.cell (p := ⟨b, off + j, none⟩) hbw).trans h
    have HC := hide hcs
    have HI1 := hide (itsC_one l)
    have HCL := hide (itsC_length l)
    clear hcs hA hI ho
    obtain ⟨N, hN⟩ : ∃ N, N = l.length := ⟨_, rfl⟩
    have HN := hide hN
    rw [← hN] at hlen l0 hn HCL ⊢
    have j0 : (0 : Int) ≤ (N : Int) := by omega
    have hst : (w.alloc (.cells #[] 38)).ownsRow w.heap.size 38 3 (.slice (some ⟨w.heap.size, 0, none⟩) 0 0) 0 [] := World.ownsRow_made w #[] 0 (Nat.le_refl _) (by unfold maxLen; omega) rfl
    clear hN
    go_enter Tryd.func7, Tryd.ntmps7
    have HST := hide hst
    have HW0 : Hid (Below w.heap.size w (w.alloc (.cells #[] 38))) := (Below.refl _ _).alloc (Nat.le_refl _) _
    clear hst
    go_wp2_with (at_builtin; first
      | (refine wpList_append_lies _ (by rfl) _ _ _ (by rfl) w.heap.size 38 i0 _ 3 32 Tryd.underlying22 hi hz0 hz1 hz2 rfl (by omega) (.slice (some ⟨w.heap.size, 0, none⟩) 0 0) 0 [] (by rfl) HST.out ⟨b, off, none⟩ N cap (itsC l) (by rfl) HCL.out (HC.out _ HW0.out) HI1.out hn (by unfold maxLen; omega) (by omega) (by simp) (w.heap.size + 1) (by simp) ?_; intro g1 cap1 w1 hown1 hgrow1 hat1 hlt1; have z1 : w.heap.size + 1 ≤ w1.heap.size := Nat.le_trans (by simp) hgrow1.size; have O1 := hide (owns_zero hown1); have B1 := hide (HW0.out.grown hgrow1 (by simp) (fun r hr => (HST.out.lt r hr).1)); clear hown1 hgrow1 hat1 hlt1)
      | (refine wpList_append_lies _ (by rfl) _ _ _ (by rfl) w.heap.size 38 i0 _ 3 32 Tryd.underlying22 hi hz0 hz1 hz2 rfl (by omega) (.slice (some ⟨g1, 0, none⟩) N cap1) N _ (by rfl) (O1.out.alloc _) ⟨w1.heap.size, 0, none⟩ 1 1 [.bool false, .int .i64 (-77), .string ⟨#[]⟩] (by rfl) (by rfl) (World.news_of_block (cs := #[.bool false, .int .i64 (-77), .string ⟨#[]⟩]) (t := 38) (fr := (0, 0)) (heap_alloc_new w1 _)) (by simp [Value.oneCell']) (by omega) (by unfold maxLen; omega) (by omega) (by simp; omega) (w1.heap.size + 1) (by simp) ?_; intro g2 cap2 w2 hown2 hgrow2 hat2 hlt2; have hc2 := owns_cap hown2; have i7 : (N : Int) ≤ (cap2 : Int) := (by omega)))
    go_ret
    refine ⟨g2, cap2, by rw [← HN.out]; rfl, by rw [← HN.out]; exact hc2, ?_, ((B1.out.alloc (by omega) _).grown hgrow2 (by simp; omega) (fun r hr => (O1.out.lt r hr).1))⟩
    rw [← HN.out, itsC_append]
    exact hown2
  · obtain rfl : l = [] := List.eq_nil_of_length_eq_zero (by omega)
    have hst : (w.alloc (.cells #[] 38)).ownsRow w.heap.size 38 3 (.slice (some ⟨w.heap.size, 0, none⟩) 0 0) 0 [] := World.ownsRow_made w #[] 0 (Nat.le_refl _) (by unfold maxLen; omega) rfl
    have HST := hide hst
    clear hA hI ho hst
    cases a with
    | none =>
      go_enter Tryd.func7, Tryd.ntmps7
      go_wp2_with (at_builtin; refine wpList_append_lies _ (by rfl) _ _ _ (by rfl) w.heap.size 38 i0 _ 3 32 Tryd.underlying22 hi hz0 hz1 hz2 rfl (by omega) (.slice (some ⟨w.heap.size, 0, none⟩) 0 0) 0 [] (by rfl) (HST.out.alloc _) ⟨w.heap.size + 1, 0, none⟩ 1 1 [.bool false, .int .i64 (-77), .string ⟨#[]⟩] (by rfl) (by rfl) (World.news_of_block (cs := #[.bool false, .int .i64 (-77), .string ⟨#[]⟩]) (t := 38) (fr := (0, 0)) (alloc2_at w _ _)) (by simp [Value.oneCell']) (by omega) (by unfold maxLen; omega) (by omega) (by simp; omega) (w.heap.size + 1 + 1) (by simp) ?_; intro g2 cap2 w2 hown2 hgrow2 hat2 hlt2; have hc2 := owns_cap hown2; have i7 : (1 : Int) ≤ (cap2 : Int) := (by omega))
      go_ret
      exact ⟨g2, cap2, rfl, by simpa using hc2, by simpa [itsC, itC, markIt] using hown2, ((((Below.refl _ _).alloc (Nat.le_refl _) _).alloc (by simp) _).grown hgrow2 (by simp; omega) (fun r hr => (HST.out.lt r hr).1))⟩
    | some a =>
      go_enter Tryd.func7, Tryd.ntmps7
      go_wp2_with (at_builtin; refine wpList_append_lies _ (by rfl) _ _ _ (by rfl) w.heap.size 38 i0 _ 3 32 Tryd.underlying22 hi hz0 hz1 hz2 rfl (by omega) (.slice (some ⟨w.heap.size, 0, none⟩) 0 0) 0 [] (by rfl) (HST.out.alloc _) ⟨w.heap.size + 1, 0, none⟩ 1 1 [.bool false, .int .i64 (-77), .string ⟨#[]⟩] (by rfl) (by rfl) (World.news_of_block (cs := #[.bool false, .int .i64 (-77), .string ⟨#[]⟩]) (t := 38) (fr := (0, 0)) (alloc2_at w _ _)) (by simp [Value.oneCell']) (by omega) (by unfold maxLen; omega) (by omega) (by simp; omega) (w.heap.size + 1 + 1) (by simp) ?_; intro g2 cap2 w2 hown2 hgrow2 hat2 hlt2; have hc2 := owns_cap hown2; have i7 : (1 : Int) ≤ (cap2 : Int) := (by omega))
      go_ret
      exact ⟨g2, cap2, rfl, by simpa using hc2, by simpa [itsC, itC, markIt] using hown2, ((((Below.refl _ _).alloc (Nat.le_refl _) _).alloc (by simp) _).grown hgrow2 (by simp; omega) (fun r hr => (HST.out.lt r hr).1))⟩
/-- the list that was lent, without its mark -/
theorem lent_list {w : World} {base g cap : Nat} {l : List It} (h : w.ownsRow base 38 3 (.slice (some ⟨g, 0, none⟩) (l.length + 1) cap) (l.length + 1) (itsC (l ++ [markIt]))) :
    Lst w (.slice (some ⟨g, 0, none⟩) l.length cap) l ∧ w.cell? ⟨g, l.length * 3 + 1, none⟩ = some (.int .i64 (-77)) ∧ g < w.heap.size := by
  have hg : g < w.heap.size := (h.lt g rfl).2
  have key : ∀ i j x, (l ++ [markIt])[i]? = some x → j < 3 → w.cell? ⟨g, i * 3 + j, none⟩ = (itC x)[j]? := fun i j x hx hj => by
    obtain ⟨hi, he⟩ := List.getElem?_eq_some_iff.1 hx
    rw [h.cellAt (i * 3 + j) (by rw [List.length_append] at hi; simp at hi; omega), itsC_get _ i j hi hj, he]
  refine ⟨⟨some ⟨g, 0, none⟩, g, 0, cap, rfl, fun _ => ⟨hg, rfl⟩, fun i x hx => ?_⟩, ?_, hg⟩
  · have hx' : (l ++ [markIt])[i]? = some x := by rw [List.getElem?_append_left (List.getElem?_eq_some_iff.1 hx).1]; exact hx
    rw [Nat.zero_add]
    exact ⟨key i 0 x hx' (by omega), key i 1 x hx' (by omega), key i 2 x hx' (by omega)⟩
  · exact key l.length 1 markIt (by simp) (by omega)
set_option maxRecDepth 100000 in
set_option maxHeartbeats 1600000 in
theorem kept_any (g cap : Nat) (v : Value) (l : List It) (w : World) (hL : Lst w (.slice (some ⟨g, 0, none⟩) l.length cap) l) (hV : Lst w v l) (ho : okL l) (hc : l.length + 1 ≤ cap) (hm : w.cell? ⟨g, l.length * 3 + 1, none⟩ = some (.int .i64 (-77))) (hg : g < w.heap.size) :
    Calls Tryd.prog 13 #[.slice (some ⟨g, 0, none⟩) l.length cap, v] w fun e w' => e = .returned (.bool true) ∧ Below w.heap.size w w' := by
  have c1 := same_any _ _ l w hL hV ho
  have l0 := ho.1
  obtain ⟨a, b, off, cap2, rfl, _, _⟩ := hV
  clear hL ho
  generalize l.length = N at *
  have i1 : (N : Int) ≤ 4398046510976 := by omega
  have i2 : (N : Int) + 1 ≤ (cap : Int) := by omega
  have i3 : (0 : Int) ≤ (N : Int) := by omega
  have HM := hide hm
  clear l0 hc hm
  go_enter Tryd.func13, Tryd.ntmps13
  go_wp2_with fail
  refine c1.mono ?_
  rintro e w1 ⟨rfl, hb1⟩
  have d1 : w1.cell? ⟨g, N * 3 + 1, none⟩ = some (.int .i64 (-77)) := (hb1.cell (p := ⟨g, N * 3 + 1, none⟩) hg).trans HM.out
  have B1 := hide hb1
  clear hb1 c1
  go_wp2
  go_ret
  exact ⟨rfl, B1.out⟩
end Go.Proofs.YtelhfdhgcojmlaaDoor
