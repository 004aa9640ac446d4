/- The walk of ExprShows. | ExprShows, as the row hands it its arguments. -/
import Derived.Test.YtkicbmjjbnblfaaGreatDoorQaA
import Derived.Test.YtkicbmjjbnblfaaGreatDoorQxA
import Derived.Test.YtkicbmjjbnblfaaGreatDoorTkW
import Derived.Test.YtkicbmjjbnblfaaGreatDoorTkB
import Derived.Test.YtkicbmjjbnblfaaGreatDoorNmA
import Derived.Test.YtkicbmjjbnblfaaGreatDoorWoW
import Derived.Test.YtkicbmjjbnblfaaGreatDoorFrmP
namespace Go.Proofs.YtkicbmjjbnblfaaGreatDoor
open Go.RowKit Go.Lib
theorem ins_len : ∀ (l : List Bs) (s : Bs), (insN l s).length ≤ l.length + 1
  | [], s => Nat.le_refl _
  | a :: r, s => by
    unfold insN
    split
    · have := ins_len r s; simp; omega
    · split <;> simp
theorem fold_len : ∀ (x : List Pt) (out : List Bs), (x.foldl (fun out p => if p.s = [] then out else insN out p.s) out).length ≤ out.length + x.length
  | [], out => Nat.le_refl _
  | p :: x, out => by
    rw [List.foldl_cons, List.length_cons]
    have h := fold_len x (if p.s = [] then out else insN out p.s)
    have h2 : (if p.s = [] then out else insN out p.s).length ≤ out.length + 1 := by
      split
      · omega
      · exact ins_len _ _
    omega
theorem names_len (x : List Pt) : (namesP x).length ≤ x.length := by
  have := fold_len x []
  unfold namesP
  simpa using this
theorem lst_none (w : World) : Lst w (.slice none 0 0) [] := ⟨none, 0, 0, 0, rfl, fun h => absurd h (Nat.lt_irrefl 0), fun i x hx => by cases hx⟩
theorem slst_none (w : World) : SLst w (.slice none 0 0) [] := ⟨none, 0, 0, 0, rfl, fun h => absurd h (Nat.lt_irrefl 0), fun i x hx => by cases hx⟩
theorem eName_b (s : ByteArray) (w : World) (hg : Glo w) : Calls Tryz.prog 13 #[.string s] w fun e w' => e = .returned (.bool (nameB s.data.toList)) ∧ Below w.heap.size w w' := by
  have h := eName_any s.data.toList w hg.kw
  rw [text_back] at h
  exact h.mono fun e w' ⟨h1, h2⟩ => ⟨h1, by rw [h2]; exact Below.refl _ _⟩
theorem qName_b (s : ByteArray) (w : World) : Calls Tryz.prog 14 #[.string s] w fun e w' => e = .returned (.bool (nameB s.data.toList)) ∧ Below w.heap.size w w' := by
  have h := qName_any s.data.toList w
  rw [text_back] at h
  exact h
/-- what both Tokens answer, one behind the other -/
theorem toks_both (v : Value) (x : List Pv) (ow : Value) (w : World) (hL : PLst w v x) (hO : PLst w ow x) (hlen : x.length ≤ 4398046510976) (hg : Glo w) : Calls Tryz.prog 5 #[ow] w fun e w1 => ∃ u T, e = .returned (.tuple #[u, .int .i64 (checkP (x.map ptV))]) ∧ Lst w1 u T ∧ T.length ≤ 1048576 ∧ Below w.heap.size w w1 ∧ ∀ W, Below w.heap.size w W → Calls Tryz.prog 6 #[v] W fun e w2 => ∃ u2, e = .returned (.tuple #[u2, .int .i64 (checkP (x.map ptV))]) ∧ Lst w2 u2 T ∧ Below W.heap.size W w2 := by
  by_cases hc : checkP (x.map ptV) = 0
  · refine (tokens_ok ow x w hO hlen hg hc).mono ?_
    rintro e w1 ⟨u, L, ex, rfl, h1, h2, h3, h4, h5, h6, h7⟩
    have e1 := tz_list h5 h6
    have h5' := (check_parts hc).1
    refine ⟨u, L, by rw [hc], h1, ?_, h7, fun W hW => ?_⟩
    · rw [e1, List.length_map]
      have := show_len ex false
      rw [h3] at this
      omega
    · rw [e1, hc]
      exact qTokens_ok v x W (hL.below hW (Nat.le_refl _)) hlen hc ex h2 h3
  · refine (tokens_bad ow x w hO hlen hg hc).mono ?_
    rintro e w1 ⟨rfl, h7⟩
    refine ⟨_, [], rfl, lst_none _, Nat.zero_le _, h7, fun W hW => ?_⟩
    exact (qTokens_bad v x W (hL.below hW (Nat.le_refl _)) hlen hc).mono fun e w2 ⟨h1, h2⟩ => ⟨_, h1, lst_none _, h2⟩
theorem names_both (v : Value) (x : List Pv) (ow : Value) (w : World) (hL : PLst w v x) (hO : PLst w ow x) (hlen : x.length ≤ 4398046510976) (hg : Glo w) : Calls Tryz.prog 7 #[ow] w fun e w1 => ∃ u T, e = .returned (.tuple #[u, .int .i64 (checkP (x.map ptV))]) ∧ SLst w1 u T ∧ T.length ≤ 1048576 ∧ Below w.heap.size w w1 ∧ ∀ W, Below w.heap.size w W → Calls Tryz.prog 8 #[v] W fun e w2 => ∃ u2, e = .returned (.tuple #[u2, .int .i64 (checkP (x.map ptV))]) ∧ SLst w2 u2 T ∧ Below W.heap.size W w2 := by
  refine (names_any ow x w hO hlen hg).mono ?_
  rintro e w1 ⟨h | ⟨hc, u, rfl, ho⟩, h7⟩
  · obtain ⟨hc, rfl⟩ := h
    refine ⟨_, [], rfl, slst_none _, Nat.zero_le _, h7, fun W hW => ?_⟩
    exact (qNames_bad v x W (hL.below hW (Nat.le_refl _)) hlen hc).mono fun e w2 ⟨h1, h2⟩ => ⟨_, h1, slst_none _, h2⟩
  · have h5' := (check_parts hc).1
    refine ⟨u, namesP (x.map ptV), by rw [hc], by rw [← nms_names]; exact SLst.of_owns ho, ?_, h7, fun W hW => ?_⟩
    · have := names_len (x.map ptV); omega
    · rw [hc]
      exact qNames_ok v x W (hL.below hW (Nat.le_refl _)) hlen hc
set_option maxRecDepth 100000 in
set_option maxHeartbeats 3200000 in
theorem shows_row (v : Value) (x : List Pv) (s : ByteArray) (w : World) (hL : PLst w v x) (ho : OkS x) (hg : Glo w) : Calls Tryz.prog 3 #[v, .string s] w fun e w' => e = .returned (.bool true) ∧ Below w.heap.size w w' := by
  have HL := hide hL
  have HG := hide hg
  have HLN : Hid (x.length ≤ 4398046510976) := by have := ho.1; show _ ≤ _; omega
  have HO := hide ho
  have c1 := lend_any v x w hL ho
  obtain ⟨va, vb, vo, vc, hv, _, _⟩ := hL
  subst hv
  clear ho hg
  go_enter Tryz.func3, Tryz.ntmps3
  go_wp2_with fail
  refine c1.mono ?_
  rintro e w1 ⟨g, cap, rfl, hcap, hown, hb1⟩
  obtain ⟨hp, hm, hgl⟩ := lent_list hown
  have HP := hide hp
  have HM := hide hm
  have HCAP := hide hcap
  have HGL := hide hgl
  have B1 := hide hb1
  clear c1 hown hp hm hgl hcap hb1
  have c2 := toks_both _ x _ w1 (HL.out.below B1.out (Nat.le_refl _)) HP.out HLN.out (HG.out.on B1.out)
  obtain ⟨C, hC⟩ : ∃ C, C = checkP (x.map ptV) := ⟨_, rfl⟩
  have HC := hide hC
  rw [← hC] at c2
  clear hC
  go_wp2_with fail
  refine c2.mono ?_
  rintro e w2 ⟨u2, T, rfl, hu2, hT, hb2, hnext⟩
  have D2 := hide hb2
  have U2 := hide hu2
  have HT := hide hT
  have CN := hide hnext
  clear c2 hu2 hT hb2 hnext
  go_wp2_with fail
  refine (CN.out _ D2.out).mono ?_
  rintro e w3 ⟨u3, rfl, hu3, hb3⟩
  have D3 := hide (below_then D2.out hb3)
  have U2b := hide (U2.out.below hb3 (Nat.le_refl _))
  have U3 := hide hu3
  clear hu3 hb3 CN D2 U2
  have c4 := names_both _ x _ w3 (HL.out.below (below_then B1.out D3.out) (Nat.le_refl _)) (HP.out.below D3.out (Nat.le_refl _)) HLN.out (HG.out.on (below_then B1.out D3.out))
  rw [← HC.out] at c4
  go_wp2_with fail
  refine c4.mono ?_
  rintro e w4 ⟨u4, S, rfl, hu4, hS, hb4, hnext⟩
  have D4 := hide hb4
  have U4 := hide hu4
  have HS := hide hS
  have CN := hide hnext
  clear c4 hu4 hS hb4 hnext
  go_wp2_with fail
  refine (CN.out _ D4.out).mono ?_
  rintro e w5 ⟨u5, rfl, hu5, hb5⟩
  have D5 := hide (below_then D4.out hb5)
  have U4b := hide (U4.out.below hb5 (Nat.le_refl _))
  have U5 := hide hu5
  have E5 := hide (below_then D3.out D5.out)
  have U2c := hide (U2b.out.below D5.out (Nat.le_refl _))
  have U3c := hide (U3.out.below D5.out (Nat.le_refl _))
  clear hu5 hb5 CN D4 U4 U2b U3 D5 D3
  have c6 := check_any _ x w5 (HP.out.below E5.out (Nat.le_refl _)) HLN.out (HG.out.on (below_then B1.out E5.out))
  rw [← HC.out] at c6
  go_wp2_with fail
  refine c6.mono ?_
  rintro e w6 ⟨rfl, hb6⟩
  have D6 := hide hb6
  clear c6 hb6
  have c7 := qCheck_any _ x w6 (HL.out.below (below_then B1.out (below_then E5.out D6.out)) (Nat.le_refl _)) HLN.out
  rw [← HC.out] at c7
  go_wp2_with fail
  refine c7.mono ?_
  rintro e w7 ⟨rfl, hb7⟩
  have D7 := hide (below_then D6.out hb7)
  clear c7 hb7 D6
  have c8 := bsame_one _ _ T w7 (U2c.out.below D7.out (Nat.le_refl _)) (U3c.out.below D7.out (Nat.le_refl _)) HT.out
  go_wp2_with fail
  refine c8.mono ?_
  rintro e w8 ⟨rfl, hb8⟩
  have D8 := hide (below_then D7.out hb8)
  clear c8 hb8 D7
  have c9 := sameTexts_one _ _ S w8 (U4b.out.below D8.out (Nat.le_refl _)) (U5.out.below D8.out (Nat.le_refl _)) HS.out
  go_wp2_with fail
  refine c9.mono ?_
  rintro e w9 ⟨rfl, hb9⟩
  have D9 := hide (below_then D8.out hb9)
  clear c9 hb9 D8
  have cA := eName_b s w9 (HG.out.on (below_then B1.out (below_then E5.out D9.out)))
  have cB := fun W => qName_b s W
  obtain ⟨nb, hnb⟩ : ∃ nb, nb = nameB s.data.toList := ⟨_, rfl⟩
  rw [← hnb] at cA cB
  clear hnb
  go_wp2_with fail
  refine cA.mono ?_
  rintro e wA ⟨rfl, hbA⟩
  have DA := hide (below_then D9.out hbA)
  clear cA hbA D9
  go_wp2_with fail
  refine (cB _).mono ?_
  rintro e wB ⟨rfl, hbB⟩
  have DB := hide (below_then DA.out hbB)
  have EB := hide (below_then E5.out DB.out)
  clear cB hbB DA
  have cK := kept_any g cap _ x wB (HP.out.below EB.out (Nat.le_refl _)) (HL.out.below (below_then B1.out EB.out) (Nat.le_refl _)) HO.out HCAP.out ((EB.out.cell (p := ⟨g, x.length * 5, none⟩) HGL.out).trans HM.out) (Nat.lt_of_lt_of_le HGL.out EB.out.size)
  go_wp2_with fail
  refine cK.mono ?_
  rintro e wK ⟨rfl, hbK⟩
  have DK := hide (below_then (below_then B1.out EB.out) hbK)
  clear cK hbK
  have cW := works_ok wK (HG.out.on DK.out)
  go_wp2_with fail
  refine cW.mono ?_
  rintro e wW ⟨rfl, hbW⟩
  have DW := hide (below_then DK.out hbW)
  clear cW hbW
  go_wp2
  go_ret
  exact ⟨rfl, DW.out⟩
end Go.Proofs.YtkicbmjjbnblfaaGreatDoor
namespace Go.Proofs.YtkicbmjjbnblfaaGreatDoor
open Go.RowKit
theorem shows_said (xv : Value) (x : List Pv) (s : ByteArray) {w' : World} (hX : PLst w' xv x) (_hxc : ∀ a n cap, xv = .slice a n cap → n ≤ cap) (hox : OkP x) (_hs : s.size ≤ 140737488351232) (w : World) (hg : Glo w) (e : w' = w := by rfl) : Calls Tryz.prog 3 #[xv, .string s] w fun e w' => e = .returned (.bool true) ∧ Below w.heap.size w w' := by
  subst e
  exact shows_row xv x s w' hX ⟨hox.1, trivial⟩ hg
end Go.Proofs.YtkicbmjjbnblfaaGreatDoor
