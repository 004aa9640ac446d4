/- The walk of the law WireBack. -/
import Derived.Test.YtelhfdhgcojmlaaDoorWorksW
import Derived.Test.YtelhfdhgcojmlaaDoorSameW
namespace Go.Proofs.YtelhfdhgcojmlaaDoor
open Go.RowKit
theorem okL_dec {b : List UInt8} {l : List It} {p : Nat} {c : Int} (h : decB b = (l, p, c)) : okL l := by
  by_cases hc : c = 0
  · subst hc
    obtain ⟨_, h1, _, h2⟩ := enc_dec b l p h
    obtain ⟨a1, a2, a3⟩ := encE_zero h1
    exact ⟨by omega, h2⟩
  · have h1 := dec_faults b (by rw [h]; exact hc)
    rw [h] at h1
    have h2 : l = [] := h1
    subst h2
    exact ⟨by decide, fun x hx => by cases hx⟩
theorem encL_size (l : List It) : (⟨(encL l).toArray⟩ : ByteArray).size ≤ 65536 := by
  rw [list_size]
  unfold encL
  split
  · rename_i h; exact (encE_zero h).2.2
  · show 0 ≤ 65536; omega
set_option maxRecDepth 100000 in
set_option maxHeartbeats 3200000 in
theorem back_any (v : Value) (l : List It) (s : ByteArray) (w : World) (hL : Lst w v l) (ho : okL l) (hs : s.size ≤ 140737488355328) (hg : Glo w) :
    Calls Tryd.prog 4 #[v, .string s] w fun e w' => e = .returned (.bool true) ∧ Below w.heap.size w w' := by
  have HG := hide hg
  have h0 := hg.lt
  have HL := hide hL
  have HO := hide ho
  have c0 := works_any w hg
  have c1 := fun W hl => encode_any v l W hl ho
  have c2 := fun W hG => decode_any s hs W hG
  have HF : Hid (∀ x ∈ l, fits x) := ho.2
  clear hg hL ho hs
  have half : Hid (∀ w1, Below w.heap.size w w1 → Calls Tryd.prog 10 #[.string s] w1 (DecOut s.data.toList w1)) := fun w1 hb => c2 w1 (HG.out.below hb h0)
  clear c2
  have ES := hide (encL_size l)
  have DE : Hid (encE l = 0 → decB (encL l) = (l, 0, 0)) := fun h => by
    have h1 := dec_enc l h HF.out
    unfold encL; rw [if_pos h]; exact h1
  have EN : Hid (encE l ≠ 0 → encL l = []) := fun h => by unfold encL; rw [if_neg h]
  have hE3 := encE_three l
  generalize encE l = E at *
  have CD : Hid (∀ W, Glo W → Calls Tryd.prog 10 #[.string ⟨(encL l).toArray⟩] W (DecOut (encL l) W)) := fun W hG => decode_any ⟨(encL l).toArray⟩ (by have := ES.out; omega) W hG
  have HEmp : Hid (encL l = [] → (⟨(encL l).toArray⟩ : ByteArray) = ⟨#[]⟩) := fun h => by rw [h]
  generalize (⟨(encL l).toArray⟩ : ByteArray) = t at *
  clear ES
  go_enter Tryd.func4, Tryd.ntmps4
  go_wp2_with fail
  refine c0.mono ?_
  rintro e w1 ⟨rfl, hb1⟩
  have B1 := hide hb1
  clear hb1 c0
  go_wp2_with fail
  refine (c1 _ (HL.out.below B1.out (Nat.le_refl _))).mono ?_
  rintro e w2 ⟨rfl, hb2⟩
  have B2 : Hid (Below w.heap.size w w2) := B1.out.trans (hb2.mono B1.out.size)
  clear hb2 B1 c1
  by_cases hE : E = 0
  · have D0 := hide (DE.out hE)
    subst hE
    clear hE3 DE EN
    go_wp2_with fail
    refine (CD.out _ (HG.out.below B2.out h0)).mono ?_
    rintro e w3 ⟨v3, l3, p3, k3, hdec, rfl, hown, hb3⟩
    rw [D0.out] at hdec
    injection hdec with e1 e2
    injection e2 with e2 e3
    subst e1 e2 e3
    have B3 : Hid (Below w.heap.size w w3) := B2.out.trans (hb3.mono B2.out.size)
    have L3 : Hid (Lst w3 v3 l) := Lst.of_owns hown
    clear hb3 hown B2 CD D0 HEmp
    go_wp2_with fail
    refine (same_any v3 v l _ (L3.out.below ((Below.refl _ _).alloc (Nat.le_refl _) _) (Nat.le_refl _)) (HL.out.below (B3.out.alloc B3.out.size _) (Nat.le_refl _)) HO.out).mono ?_
    rintro e w4 ⟨rfl, hb4⟩
    have B4 : Hid (Below w.heap.size w w4) := (B3.out.alloc B3.out.size _).trans (hb4.mono (by have := B3.out.size; simp; omega))
    clear hb4 B3 L3
    have BX := B4
    clear B4
    go_wp2_with fail
    refine (half.out _ BX.out).mono ?_
    rintro e w5 ⟨v5, l5, p5, k5, hdec, rfl, hown, hb5⟩
    have B5 : Hid (Below w.heap.size w w5) := BX.out.trans (hb5.mono BX.out.size)
    have L5 : Hid (Lst w5 v5 l5) := Lst.of_owns hown
    have O5 := okL_dec hdec
    by_cases hk : k5 = 0
    · subst hk
      obtain ⟨rfl, hE5, hB5, _⟩ := enc_dec _ _ _ hdec
      have hEL : encL l5 = s.data.toList := by unfold encL; rw [if_pos hE5]; exact hB5
      have c5 := encode_any v5 l5 _ (L5.out.below ((Below.refl _ _).alloc (Nat.le_refl _) (.cells #[.int .i64 0, .int .i64 0] 28)) (Nat.le_refl _)) O5
      rw [hE5, hEL, show (⟨s.data.toList.toArray⟩ : ByteArray) = s from rfl] at c5
      clear hdec hown hb5 hE5 hB5 hEL O5 BX half
      go_wp2_with fail
      refine c5.mono ?_
      rintro e w6 ⟨rfl, hb6⟩
      have B6 : Hid (Below w.heap.size w w6) := (B5.out.alloc B5.out.size _).trans (hb6.mono (by have := B5.out.size; simp; omega))
      clear hb6 c5
      go_wp2
      go_ret
      exact ⟨rfl, B6.out⟩
    · have hl5 : l5 = [] := by
        have h1 := dec_faults _ (by rw [hdec]; exact hk)
        rw [hdec] at h1; exact h1
      subst hl5
      have hkb : (k5 == 0) = false := by rw [beq_eq_false_iff_ne]; exact hk
      obtain ⟨a5, b5, off5, cap5, rfl, _, _⟩ := L5.out
      clear hdec hown hb5 O5 BX half hk
      go_wp2
      go_ret
      exact ⟨rfl, B5.out.alloc B5.out.size _⟩
  · have hEb : (E == 0) = false := by rw [beq_eq_false_iff_ne]; exact hE
    obtain rfl := HEmp.out (EN.out hE)
    have BX := B2
    clear hE3 CD DE EN HEmp hE B2
    go_wp2_with fail
    refine (half.out _ BX.out).mono ?_
    rintro e w5 ⟨v5, l5, p5, k5, hdec, rfl, hown, hb5⟩
    have B5 : Hid (Below w.heap.size w w5) := BX.out.trans (hb5.mono BX.out.size)
    have L5 : Hid (Lst w5 v5 l5) := Lst.of_owns hown
    have O5 := okL_dec hdec
    by_cases hk : k5 = 0
    · subst hk
      obtain ⟨rfl, hE5, hB5, _⟩ := enc_dec _ _ _ hdec
      have hEL : encL l5 = s.data.toList := by unfold encL; rw [if_pos hE5]; exact hB5
      have c5 := encode_any v5 l5 _ (L5.out.below ((Below.refl _ _).alloc (Nat.le_refl _) (.cells #[.int .i64 0, .int .i64 0] 28)) (Nat.le_refl _)) O5
      rw [hE5, hEL, show (⟨s.data.toList.toArray⟩ : ByteArray) = s from rfl] at c5
      clear hdec hown hb5 hE5 hB5 hEL O5 BX half
      go_wp2_with fail
      refine c5.mono ?_
      rintro e w6 ⟨rfl, hb6⟩
      have B6 : Hid (Below w.heap.size w w6) := (B5.out.alloc B5.out.size _).trans (hb6.mono (by have := B5.out.size; simp; omega))
      clear hb6 c5
      go_wp2
      go_ret
      exact ⟨rfl, B6.out⟩
    · have hl5 : l5 = [] := by
        have h1 := dec_faults _ (by rw [hdec]; exact hk)
        rw [hdec] at h1; exact h1
      subst hl5
      have hkb : (k5 == 0) = false := by rw [beq_eq_false_iff_ne]; exact hk
      obtain ⟨a5, b5, off5, cap5, rfl, _, _⟩ := L5.out
      clear hdec hown hb5 O5 BX half hk
      go_wp2
      go_ret
      exact ⟨rfl, B5.out.alloc B5.out.size _⟩
theorem back_row (v : Value) (l : List It) (s : ByteArray) {w' : World} (hL : Lst w' v l) (ho : okL l) (hs : s.size ≤ 140737488351232) (w : World) (hg : Glo w) (e : w' = w := by rfl) :
    Calls Tryd.prog 4 #[v, .string s] w fun e w' => e = .returned (.bool true) ∧ Below w.heap.size w w' := by
  subst e
  exact back_any v l s w' hL ho (by omega) hg
end Go.Proofs.YtelhfdhgcojmlaaDoor
