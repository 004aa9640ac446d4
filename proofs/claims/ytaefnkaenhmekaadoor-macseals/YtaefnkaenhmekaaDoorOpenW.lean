/- The contracts of mac.Open and of the laws' works. -/
import Derived.Test.YtaefnkaenhmekaaDoorMacW
import Derived.Test.YtaefnkaenhmekaaDoorMEx
import Derived.Test.YtaefnkaenhmekaaDoorWorks
namespace Go.Proofs.YtaefnkaenhmekaaDoor
open Go.RowKit
theorem tab_same {w W : World} (h : Same w W) (hT : Tab w) : Tab W := fun t ht => (h.cell _).trans (hT t ht)
set_option maxRecDepth 100000 in
set_option maxHeartbeats 1600000 in
theorem open_any (k s : ByteArray) (hk : k.size < 1152921504606846000) (hs : s.size ≤ 140737488355000) (w : World) (hTab : Tab w) (h0 : 0 < w.heap.size) :
    Calls Tryd.prog 15 #[.string k, .string s] w fun e w' => e = .returned (.tuple #[.string (openA k s), .int .i64 (openE k s)]) ∧ Below w.heap.size w w' := by
  have j0 : (s.size : Int) ≤ 140737488355000 := by omega
  by_cases h32 : s.size < 32
  · have hE : openE k s = 20 := by unfold openE; rw [if_pos h32]
    have hA : openA k s = ⟨#[]⟩ := by unfold openA; rw [hE]; rfl
    rw [hE, hA]
    have i1 : (s.size : Int) < 32 := by omega
    have i2 : (s.size : Int) - 32 < 0 := by omega
    clear hTab hE hA
    go_enter Tryd.func15, Tryd.ntmps15
    go_wp2
    go_ret2
    exact ⟨rfl, Below.refl _ _⟩
  · obtain ⟨n, hn⟩ : ∃ n, n = s.size - 32 := ⟨_, rfl⟩
    have i1 : ¬ (s.size : Int) < 32 := by omega
    have i3 : (s.size : Int) - 32 = (n : Int) := by omega
    have i4 : (0 : Int) ≤ (n : Int) := by omega
    have i5 : (n : Int) ≤ (s.size : Int) := by omega
    have i6 : ¬ (n : Int) < 0 := by omega
    have i7 : ((n : Int)).toNat = n := by omega
    have hE : openE k s = checkE k (headS s) (tailS s) := by unfold openE; rw [if_neg h32]
    have e1 : s.extract 0 n = headS s := by rw [hn]; rfl
    have e2 : s.extract n s.size = tailS s := by rw [hn]; rfl
    have hch := fun W hT h0 => check_any k (headS s) (tailS s) hk (by have := headS_size s; omega) (by have := tailS_size s; omega) W hT h0
    have hcl := fun W => sclone_any (headS s) (by have := headS_size s; omega) W
    have hC : Hid (∀ W, Same w W → Calls Tryd.prog 12 #[.string k, .string (headS s), .string (tailS s)] W fun e w' => e = .returned (.int .i64 (checkE k (headS s) (tailS s))) ∧ Below w.heap.size w w') := fun W hS =>
      (hch W (tab_same hS hTab) (by rw [hS.1]; exact h0)).mono fun e w' ⟨h1, h2⟩ => ⟨h1, (hS.below (Below.refl _ _)).trans (by rw [← hS.1]; exact h2)⟩
    have s1 : ∀ W : World, (Instr.slice 9 (.string s) none (some (.int .i64 (n : Int))) none).run Tryd.prog W = .ok (.string (headS s)) W := fun W => by
      rw [run_slice_string_to_if _ _ _ _ _ Tryd.underlying9, if_pos ⟨i4, i5⟩, i7, e1]
    have s2 : ∀ W : World, (Instr.slice 9 (.string s) (some (.int .i64 (n : Int))) none none).run Tryd.prog W = .ok (.string (tailS s)) W := fun W => by
      rw [run_slice_string_from_if _ _ _ _ _ Tryd.underlying9, if_pos ⟨i4, i5⟩, i7, e2]
    by_cases hok : checkE k (headS s) (tailS s) = 0
    · have hA : openA k s = headS s := by unfold openA; rw [hE, if_pos hok]
      rw [hE, hA, hok]
      rw [hok] at hC
      clear hch hA hE hok hTab e1 e2 i7 hn h32
      generalize headS s = hd at *
      generalize tailS s = tl at *
      go_enter Tryd.func15, Tryd.ntmps15
      go_wp2
      go_region_with (go_at_call 12; refine (hC.out _ ?_).mono ?_; exact ⟨rfl, rfl, rfl, rfl⟩; rintro e w1 ⟨rfl, hb1⟩)
      all_goals
        have b1 : Below w.heap.size w w1 := by assumption
        go_wp2_with fail
        refine (hcl _).mono ?_
        rintro e w2 ⟨rfl, hb2⟩
        have b2 : Hid (Below w.heap.size w w2) := b1.trans (hb2.mono b1.size)
        clear hb2
        go_wp2
        go_ret2
        exact ⟨rfl, b2⟩
    · have hA : openA k s = ⟨#[]⟩ := by unfold openA; rw [hE, if_neg hok]
      have h20 : checkE k (headS s) (tailS s) = 20 := by
        unfold checkE at hok ⊢
        split
        · rename_i h; rw [if_pos h] at hok; exact absurd rfl hok
        · rfl
      rw [hE, hA, h20]
      rw [h20] at hC
      clear hch hcl hA hE hok hTab e1 e2 i7 hn h32 h20
      generalize headS s = hd at *
      generalize tailS s = tl at *
      go_enter Tryd.func15, Tryd.ntmps15
      go_wp2
      go_region_with (go_at_call 12; refine (hC.out _ ?_).mono ?_; exact ⟨rfl, rfl, rfl, rfl⟩; rintro e w1 ⟨rfl, hb1⟩)
      all_goals
        have b1 : Hid (Below w.heap.size w w1) := by assumption
        go_wp2
        go_ret2
        exact ⟨rfl, b1⟩
set_option maxRecDepth 100000 in
set_option maxHeartbeats 800000 in
theorem works_any (w : World) (hTab : Tab w) (h0 : 0 < w.heap.size) :
    Calls Tryd.prog 14 #[] w fun e w' => e = .returned (.bool true) ∧ Below w.heap.size w w' := by
  have HT : Hid (Tab w) := hTab
  have hex : Hid (hexL (tagL exKey exMsg) = exHex) := ex_tag
  have l1 : (tagL exKey exMsg).length ≤ 1048576 := by rw [tagL_length]; omega
  have c1 : Calls Tryd.prog 9 #[.string ⟨#[74, 101, 102, 101]⟩, .string ⟨#[119, 104, 97, 116, 32, 100, 111, 32, 121, 97, 32, 119, 97, 110, 116, 32, 102, 111, 114, 32, 110, 111, 116, 104, 105, 110, 103, 63]⟩] w fun e w' => e = .returned (.string ⟨(tagL exKey exMsg).toArray⟩) ∧ Below w.heap.size w w' :=
    tag_any ⟨exKey.toArray⟩ ⟨exMsg.toArray⟩ (by decide) (by decide) w hTab h0
  have d1 := fun W => hex_lit (tagL exKey exMsg) l1 W
  rw [hex.out] at d1
  have e1 : ∀ W, Calls Tryd.prog 11 #[.string ⟨#[97]⟩, .string ⟨#[97]⟩] W fun e w' => e = .returned (.bool true) ∧ Below W.heap.size W w' := fun W => by
    have := equal_any ⟨#[97]⟩ ⟨#[97]⟩ (by decide) (by decide) W
    rwa [decide_eq_true rfl] at this
  have e2 : ∀ W, Calls Tryd.prog 11 #[.string ⟨#[97]⟩, .string ⟨#[98]⟩] W fun e w' => e = .returned (.bool false) ∧ Below W.heap.size W w' := fun W => by
    have := equal_any ⟨#[97]⟩ ⟨#[98]⟩ (by decide) (by decide) W
    rwa [decide_eq_false (by decide)] at this
  generalize tagL exKey exMsg = A at *
  clear hTab hex l1
  unfold exHex at d1
  go_enter Tryd.func14, Tryd.ntmps14
  go_wp2_with fail
  refine c1.mono ?_
  rintro e w1 ⟨rfl, hb1⟩
  have z1 := hb1.size
  go_wp2_with fail
  refine (d1 _).mono ?_
  rintro e w2 ⟨rfl, hb2⟩
  have b2 : Below w.heap.size w w2 := hb1.trans (hb2.mono z1)
  clear hb1 hb2
  go_wp2_with fail
  refine (e1 _).mono ?_
  rintro e w3 ⟨rfl, hb3⟩
  have b3 : Below w.heap.size w w3 := b2.trans (hb3.mono b2.size)
  clear hb3 b2
  go_wp2_with fail
  refine (e2 _).mono ?_
  rintro e w4 ⟨rfl, hb4⟩
  have b4 : Hid (Below w.heap.size w w4) := b3.trans (hb4.mono b3.size)
  clear hb4 b3
  go_wp2
  go_ret
  exact ⟨rfl, b4⟩
end Go.Proofs.YtaefnkaenhmekaaDoor
