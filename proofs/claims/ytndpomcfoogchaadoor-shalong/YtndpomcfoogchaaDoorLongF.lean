/- The walk of the law ShaLong, for every text that can come in. -/
import Derived.Test.YtndpomcfoogchaaDoorWorks
import Derived.Test.YtndpomcfoogchaaDoorHexF
import Derived.Deep.QuietTactic
import Derived.BigQuiet
import Derived.Deep.RegionWith
namespace Go.Proofs.YtndpomcfoogchaaDoor
open Go.RowKit
theorem value_lo (x : Int) (h0 : 48 ≤ x) (h1 : x ≤ 57) (w : World) : Calls Tryd.prog 18 #[.int .u8 x] w fun e w' => e = .returned (.int .i64 (x - 48)) ∧ w' = w := by
  go_enter Tryd.func18, Tryd.ntmps18
  go_wp2
  go_ret
  exact ⟨rfl, rfl⟩
theorem value_hi (x : Int) (h0 : 97 ≤ x) (h1 : x ≤ 102) (w : World) : Calls Tryd.prog 18 #[.int .u8 x] w fun e w' => e = .returned (.int .i64 (x - 97 + 10)) ∧ w' = w := by
  have h2 : ¬ x ≤ 57 := by omega
  have h3 : (48 : Int) ≤ x := by omega
  go_enter Tryd.func18, Tryd.ntmps18
  go_wp2
  go_ret
  exact ⟨rfl, rfl⟩
theorem value_hex (n : Nat) (hn : n < 16) (w : World) : Calls Tryd.prog 18 #[.int .u8 ((hexC n).toNat : Int)] w fun e w' => e = .returned (.int .i64 (n : Int)) ∧ w' = w := by
  by_cases h : n < 10
  · have e : ∀ n : Fin 10, (hexC n.val).toNat = n.val + 48 := by decide +kernel
    have e1 := e ⟨n, h⟩
    have := value_lo ((hexC n).toNat : Int) (by rw [e1]; omega) (by rw [e1]; simp; omega) w
    rwa [show ((hexC n).toNat : Int) - 48 = (n : Int) from by rw [e1]; simp] at this
  · have e : ∀ n : Fin 16, 10 ≤ n.val → (hexC n.val).toNat = n.val + 87 := by decide +kernel
    have e1 := e ⟨n, hn⟩ (by simp; omega)
    have := value_hi ((hexC n).toNat : Int) (by rw [e1]; simp; omega) (by rw [e1]; simp; omega) w
    rwa [show ((hexC n).toNat : Int) - 97 + 10 = (n : Int) from by rw [e1]; simp; omega] at this
theorem hexL_get (l : List UInt8) : ∀ (k : Nat) (h : k < l.length), (hexL l)[2 * k]? = some (hexC (l[k].toNat / 16)) ∧ (hexL l)[2 * k + 1]? = some (hexC (l[k].toNat % 16)) := by
  induction l with
  | nil => intro k h; cases h
  | cons x r ih =>
    intro k h
    match k with
    | 0 => exact ⟨rfl, rfl⟩
    | k + 1 =>
      have := ih k (by simpa using h)
      simpa [hexL, hexP, Nat.mul_add] using this
theorem idx_text {P : Program} (W : World) (s : ByteArray) (k : Nat) (c : UInt8) (x : Int) (hx : x = (k : Int)) (h : s[k]? = some c) (hu : P.underlying 9 = some .string) : (Instr.index 9 (.string s) (.int .i64 x)).run P W = .ok (.int .u8 (c.toNat : Int)) W := by
  subst hx
  simp only [Instr.index, asIntOf, Sem.run_bind, Sem.run_pure, Result.andThen_ok, run_underlying hu]
  rw [if_pos (by omega), Int.toNat_natCast]
  simp [h]
theorem get_text (l : List UInt8) (k : Nat) : (⟨l.toArray⟩ : ByteArray)[k]? = l[k]? := by
  by_cases h : k < l.length
  · rw [List.getElem?_eq_getElem h, getElem?_pos _ _ (by show k < l.toArray.size; simpa using h)]; rfl
  · rw [List.getElem?_eq_none (by omega), getElem?_neg _ _ (by show ¬ k < l.toArray.size; simpa using h)]
theorem get_text' (s : ByteArray) (k : Nat) (h : k < s.size) : s[k]? = some (s.data.toList[k]'(by rw [Array.length_toList]; exact h)) := by
  rw [getElem?_pos s k h]; rfl
set_option maxRecDepth 100000 in
set_option maxHeartbeats 1600000 in
theorem long_any (s : ByteArray) (hn : s.size ≤ 140737488351232) (w : World) (hTab : Tab w) (h0 : 0 < w.heap.size) :
    Calls Tryd.prog 5 #[.string s] w fun e w' => e = .returned (.bool true) ∧ Below w.heap.size w w' := by
  have hget := fun k (h : k < s.size) => hexL_get s.data.toList k (by rw [Array.length_toList]; exact h)
  have hHs : (⟨(hexL s.data.toList).toArray⟩ : ByteArray).size = 2 * s.size := by show (hexL s.data.toList).toArray.size = _; simp [hexL_length]
  have hSs : (⟨(shaB s.data.toList).toArray⟩ : ByteArray).size = 32 := by show (shaB s.data.toList).toArray.size = _; simp [shaB_length]
  have hx := hexf_any s hn
  have hs := fun W hT h0 => sum_any s (by omega) W hT h0
  have hi1 : ∀ k (h : k < s.size), (⟨(hexL s.data.toList).toArray⟩ : ByteArray)[2 * k]? = some (hexC ((s.data.toList[k]'(by rw [Array.length_toList]; exact h)).toNat / 16)) := fun k h => by rw [get_text]; exact (hget k h).1
  have hi2 : ∀ k (h : k < s.size), (⟨(hexL s.data.toList).toArray⟩ : ByteArray)[2 * k + 1]? = some (hexC ((s.data.toList[k]'(by rw [Array.length_toList]; exact h)).toNat % 16)) := fun k h => by rw [get_text]; exact (hget k h).2
  have hDs : (⟨(hexL (shaB s.data.toList)).toArray⟩ : ByteArray).size = 64 := by show (hexL (shaB s.data.toList)).toArray.size = _; simp [hexL_length, shaB_length]
  have hd := fun W => hex_lit (shaB s.data.toList) (by rw [shaB_length]; omega) W
  clear hget
  generalize (⟨(hexL (shaB s.data.toList)).toArray⟩ : ByteArray) = D at *
  generalize (⟨(hexL s.data.toList).toArray⟩ : ByteArray) = Hx at *
  generalize (⟨(shaB s.data.toList).toArray⟩ : ByteArray) = S at *
  have HT : Hid (Tab w) := hTab
  have n1 : ((S.size : Int) != 32) = false := by rw [hSs]; rfl
  have n2 : ((D.size : Int) != 64) = false := by rw [hDs]; rfl
  have n3 : ((Hx.size : Int) != 2 * (s.size : Int)) = false := by rw [hHs]; simp
  have HH : Hid (Hx.size = 2 * s.size) := hHs
  have HI1 : Hid (∀ k (h : k < s.size), Hx[2 * k]? = some (hexC ((s.data.toList[k]'(by rw [Array.length_toList]; exact h)).toNat / 16))) := hi1
  have HI2 : Hid (∀ k (h : k < s.size), Hx[2 * k + 1]? = some (hexC ((s.data.toList[k]'(by rw [Array.length_toList]; exact h)).toNat % 16))) := hi2
  clear hSs hDs hTab hHs hi1 hi2
  have i1 : (s.size : Int) ≤ 140737488351232 := by omega
  go_enter Tryd.func5, Tryd.ntmps5
  go_wp2_with fail
  refine (works_any _ HT.out h0).mono ?_
  rintro e w1 ⟨rfl, hb1⟩
  have z1 := hb1.size
  go_wp2_with fail
  refine (hs _ (HT.out.below hb1 h0) (by omega)).mono ?_
  rintro e w2 ⟨rfl, hb2⟩
  have b2 : Below w.heap.size w w2 := hb1.trans (hb2.mono z1)
  go_wp2_with fail
  refine (hx _).mono ?_
  rintro e w3 ⟨rfl, hb3⟩
  have b3 : Below w.heap.size w w3 := b2.trans (hb3.mono b2.size)
  go_wp2_with fail
  refine (hd _).mono ?_
  rintro e w4 ⟨rfl, hb4⟩
  have b4 : Hid (Below w.heap.size w w4) := b3.trans (hb4.mono b3.size)
  clear hb1 hb2 hb3 hb4 b2 b3 hx hs hd z1
  go_wp2_with fail
  go_loopw [31] (fun i wr => ∃ k : Nat, k ≤ s.size ∧ i = .int .i64 k ∧ Same w4 wr) (fun i _ => s.size - (intOf i).toNat)
  case atStart => exact ⟨0, by omega, rfl, ⟨rfl, rfl, rfl, rfl⟩⟩
  case round =>
    obtain ⟨k, hk, rfl, hS⟩ := hrel
    by_cases hlt : k < s.size
    · have j0 : (0 : Int) ≤ (k : Int) := by omega
      have j1 : (k : Int) < (s.size : Int) := by omega
      have g1 := HI1.out k hlt
      have g2 := HI2.out k hlt
      have g0 := get_text' s k hlt
      generalize s.data.toList[k]'(by rw [Array.length_toList]; exact hlt) = c at *
      have x0 : ∀ W : World, (Instr.index 9 (.string s) (.int .i64 (k : Int))).run Tryd.prog W = .ok (.int .u8 (c.toNat : Int)) W := fun W => idx_text W s k c _ rfl g0 Tryd.underlying9
      have x1 : ∀ W : World, (Instr.index 9 (.string Hx) (.int .i64 (2 * (k : Int)))).run Tryd.prog W = .ok (.int .u8 ((hexC (c.toNat / 16)).toNat : Int)) W := fun W => idx_text W Hx (2 * k) _ _ (by omega) g1 Tryd.underlying9
      have x2 : ∀ W : World, (Instr.index 9 (.string Hx) (.int .i64 (2 * (k : Int) + 1))).run Tryd.prog W = .ok (.int .u8 ((hexC (c.toNat % 16)).toNat : Int)) W := fun W => idx_text W Hx (2 * k + 1) _ _ (by omega) g2 Tryd.underlying9
      have hc := c.toNat_lt
      have v1 := fun W => value_hex (c.toNat / 16) (by omega) W
      have v2 := fun W => value_hex (c.toNat % 16) (by omega) W
      have HV1 : Hid (∀ W, Calls Tryd.prog 18 #[.int .u8 ((hexC (c.toNat / 16)).toNat : Int)] W fun e w' => e = .returned (.int .i64 ((c.toNat / 16 : Nat) : Int)) ∧ w' = W) := v1
      have HV2 : Hid (∀ W, Calls Tryd.prog 18 #[.int .u8 ((hexC (c.toNat % 16)).toNat : Int)] W fun e w' => e = .returned (.int .i64 ((c.toNat % 16 : Nat) : Int)) ∧ w' = W) := v2
      have y1 : ((c.toNat / 16 : Nat) : Int) ≤ 15 := by omega
      have y2 : ((c.toNat % 16 : Nat) : Int) ≤ 15 := by omega
      have y3 : (0 : Int) ≤ ((c.toNat / 16 : Nat) : Int) := by omega
      have y4 : (0 : Int) ≤ ((c.toNat % 16 : Nat) : Int) := by omega
      have y5 : ((((c.toNat / 16 : Nat) : Int) * 16 + ((c.toNat % 16 : Nat) : Int)) != (c.toNat : Int)) = false := by rw [bne_eq_false_iff_eq]; omega
      generalize ((c.toNat / 16 : Nat) : Int) = q1 at *
      generalize ((c.toNat % 16 : Nat) : Int) = q2 at *
      generalize ((hexC (c.toNat / 16)).toNat : Int) = d1 at *
      generalize ((hexC (c.toNat % 16)).toNat : Int) = d2 at *
      clear v1 v2 g0 g1 g2 HI1 HI2
      go_wp2_with fail
      go_quiet (first | (go_at_call_of 18 (d1); exact Calls.quiet_of_same (HV1.out _)) | (go_at_call_of 18 (d2); exact Calls.quiet_of_same (HV2.out _)))
      clear x0 x1 x2 HV1 HV2
      go_wp2
      go_roundw
      case rel => exact ⟨k + 1, by omega, by go_num, hS.drewN _⟩
      case measure => simp [intOf]; omega
    · have hB : Hid (Below w.heap.size w wr) := hS.below b4.out
      have i5 : ¬ (k : Int) < (s.size : Int) := by omega
      clear hS
      go_wp2
      go_ret
      exact ⟨rfl, hB⟩
end Go.Proofs.YtndpomcfoogchaaDoor
