/- The document's Digits, Signed; how numbers are shown. -/
import Derived.Test.YtmbgcpmapaedcaaDoorSwW
import Derived.Laws.IdiomStrings
namespace Go.Proofs.YtmbgcpmapaedcaaDoor
open Go.RowKit
abbrev Bs := List UInt8
def chL (k : Nat) : UInt8 := if k < 10 then UInt8.ofNat (48 + k) else UInt8.ofNat (87 + k)
def repF (ch : Nat → UInt8) (base : Nat) : Nat → Nat → Bs
  | 0, _ => []
  | f + 1, n => if n / base = 0 then [ch (n % base)] else repF ch base f (n / base) ++ [ch (n % base)]
def dec (n : Nat) : Bs := repF chL 10 20 n
def signedL (n : Int) : Bs := if n < 0 then 45 :: dec n.natAbs else dec n.natAbs
theorem dec_lib : ∀ (f n : Nat), n < 10 ^ f → 0 < f → repF chL 10 f n = Lib.decDigits n
  | 0, n, _, h => absurd h (Nat.lt_irrefl 0)
  | f + 1, n, hn, _ => by
    rw [repF, Lib.decDigits]
    by_cases h : n < 10
    · rw [if_pos (by omega), dif_pos h, Nat.mod_eq_of_lt h]
      unfold chL
      rw [if_pos h]
    · have hf : 0 < f := by
        rcases Nat.eq_zero_or_pos f with h0 | h0
        · rw [h0] at hn; omega
        · exact h0
      rw [if_neg (by omega), dif_neg h, dec_lib f (n / 10) (by rw [Nat.pow_succ] at hn; omega) hf]
      unfold chL
      rw [if_pos (by omega)]
theorem itoa_dec (n : Int) (h0 : -9223372036854775808 ≤ n) (h1 : n ≤ 9223372036854775807) : Lib.itoa n = signedL n := by
  unfold Lib.itoa signedL dec
  by_cases h : n < 0
  · rw [if_pos h, if_pos h, dec_lib 20 n.natAbs (by omega) (by decide)]
  · rw [if_neg h, if_neg h, dec_lib 20 n.natAbs (by omega) (by decide)]
    congr 1
    omega
theorem repF_len (ch : Nat → UInt8) (base : Nat) : ∀ f n, (repF ch base f n).length ≤ f
  | 0, n => Nat.le_refl 0
  | f + 1, n => by
    rw [repF]
    split
    · simp
    · have := repF_len ch base f (n / base)
      rw [List.length_append, List.length_singleton]; omega
theorem list_size (l : List UInt8) : (⟨l.toArray⟩ : ByteArray).size = l.length := by show l.toArray.size = _; simp
theorem wrap_i64_small (n : Nat) (h : n < 9223372036854775808) : IntKind.i64.wrap (n : Int) = (n : Int) := by rw [IntKind.wrap_i64]; omega
theorem chL_byte (k : Nat) (h : k < 10) : (chL k).toNat = 48 + k := by
  unfold chL
  rw [if_pos h, UInt8.toNat_ofNat']
  omega
theorem dig_text (k : Nat) (h : k < 10) (u : World) : (convert 61 9 (.slice (some ⟨u.heap.size, 0, none⟩) 1 1)).run Tryd.prog (u.alloc (.cells #[.int .u8 (48 + (k : Int))] 5)) = .ok (.string ⟨[chL k].toArray⟩) (u.alloc (.cells #[.int .u8 (48 + (k : Int))] 5)) :=
  run_convert_bytes_back (P := Tryd.prog) (u.alloc (.cells #[.int .u8 (48 + (k : Int))] 5)) 61 9 5 ⟨u.heap.size, 0, none⟩ 1 [chL k] Tryd.underlying61 Tryd.underlying5 Tryd.underlying9 (fun i hi => by
    have hi0 : i = 0 := by simpa using hi
    subst hi0
    show _ = some (Value.int .u8 ((chL k).toNat : Int))
    rw [chL_byte k h]
    simp [Addr.add])
set_option maxRecDepth 100000 in
set_option maxHeartbeats 3200000 in
theorem rDigits_any (n : Nat) (hn : n < 9223372036854775808) (w : World) : Calls Tryd.prog 54 #[.int .i64 (n : Int)] w fun e w' => e = .returned (.string ⟨(dec n).toArray⟩) ∧ Below w.heap.size w w' := by
  have HP : Hid (n < 10 ^ 20) := Nat.lt_trans hn (by decide)
  go_enter Tryd.func54, Tryd.ntmps54
  go_wp2_with fail
  go_loopw [0, 3] (fun a s wr => ∃ (m f : Nat) (acc : Bs) (sb : ByteArray), a = .int .i64 (m : Int) ∧ s = .string sb ∧ m < 9223372036854775808 ∧ Hid (sb = ⟨acc.toArray⟩ ∧ m < 10 ^ (f + 1) ∧ repF chL 10 (f + 1) m ++ acc = dec n ∧ Below w.heap.size w wr)) (fun a _ _ => (intOf a).toNat)
  case atStart => exact ⟨n, 19, [], ⟨#[]⟩, rfl, rfl, hn, rfl, HP.out, by rw [List.append_nil]; rfl, Below.refl _ _⟩
  case round =>
    obtain ⟨m, f, acc, sb, rfl, rfl, hm, hh⟩ := hrel
    have m0 : (0 : Int) ≤ (m : Int) := by omega
    have m1 : (m : Int) < 9223372036854775808 := by omega
    have em : ((m % 10 : Nat) : Int) = (m : Int) % 10 := by omega
    have hlt : m % 10 < 10 := Nat.mod_lt _ (by omega)
    have hpc := fun u => dig_text (m % 10) hlt u
    rw [em] at hpc
    have HQ : Hid (((m / 10 : Nat) : Int) = (m : Int) / 10) := by show _ = _; omega
    have hsize : sb.size ≤ 80 := by
      have h1 := congrArg List.length hh.out.2.2.1
      rw [List.length_append] at h1
      have h3 : (dec n).length ≤ 20 := repF_len _ _ _ _
      rw [hh.out.1, list_size]
      omega
    have hch : (⟨[chL (m % 10)].toArray⟩ : ByteArray).size = 1 := rfl
    obtain ⟨sb3, hsb3⟩ : ∃ x : ByteArray, Hid (x = (⟨[chL (m % 10)].toArray⟩ : ByteArray) ++ sb) := ⟨_, rfl⟩
    have add3 : Op.stringOp .add ⟨[chL (m % 10)].toArray⟩ sb = pure (.string sb3) := by rw [hsb3.out]; exact str_add _ _ (by rw [hch]; omega)
    have HS : Hid (sb3 = ⟨(chL (m % 10) :: acc).toArray⟩) := by
      show _ = _
      rw [hsb3.out, hh.out.1, app_text]; rfl
    have HB := hide hh.out.2.2.2
    have zr := HB.out.size
    have HN : Hid (m / 10 ≠ 0 → ∃ f', f = f' + 1 ∧ m / 10 < 10 ^ (f' + 1) ∧ repF chL 10 (f' + 1) (m / 10) ++ (chL (m % 10) :: acc) = dec n) := fun h0 => by
      have hf : f ≠ 0 := fun e => by
        have := hh.out.2.1
        rw [e, Nat.zero_add, Nat.pow_one] at this
        exact h0 (Nat.div_eq_of_lt this)
      obtain ⟨f', rfl⟩ : ∃ f', f = f' + 1 := ⟨f - 1, by omega⟩
      refine ⟨f', rfl, ?_, ?_⟩
      · have := hh.out.2.1
        rw [Nat.pow_succ] at this
        exact Nat.div_lt_of_lt_mul (by rw [Nat.mul_comm]; exact this)
      · have e : repF chL 10 (f' + 1 + 1) m = repF chL 10 (f' + 1) (m / 10) ++ [chL (m % 10)] := by rw [repF, if_neg h0]
        rw [← hh.out.2.2.1, e, List.append_assoc]
        rfl
    have HZ : Hid (m / 10 = 0 → chL (m % 10) :: acc = dec n) := fun h0 => by
      rw [← hh.out.2.2.1, repF, if_pos h0]
      rfl
    have B1 := hide (HB.out.alloc zr (.cells #[.int .u8 (48 + (m : Int) % 10)] 5))
    generalize (⟨[chL (m % 10)].toArray⟩ : ByteArray) = cb at *
    clear hh hsize hch em
    by_cases h0 : m / 10 = 0
    · have HE := hide (HZ.out h0)
      have i0 : (m : Int) / 10 = 0 := by omega
      clear HN HZ h0
      go_wp2
      go_ret
      exact ⟨by rw [← HE.out, ← HS.out]; rfl, B1.out⟩
    · have HE := hide (HN.out h0)
      have i0 : ¬ (m : Int) / 10 = 0 := by omega
      have i1 := hide (show m / 10 < m by omega)
      have hw : IntKind.i64.wrap ((m : Int) / 10) = (m : Int) / 10 := by rw [← HQ.out]; exact wrap_i64_small _ (by omega)
      have HM := hide hm
      clear HN HZ hm m1 h0
      go_wp2
      go_roundw
      case rel =>
        obtain ⟨f', _, q1, q2⟩ := HE.out
        exact ⟨m / 10, f', _, sb3, by rw [HQ.out], rfl, by have := HM.out; omega, HS.out, q1, q2, B1.out⟩
      case measure =>
        have := i1.out
        simp [intOf]; omega
set_option maxRecDepth 100000 in
set_option maxHeartbeats 3200000 in
theorem rsigned_any (n : Int) (h0 : -9223372036854775807 ≤ n) (h1 : n ≤ 9223372036854775807) (w : World) : Calls Tryd.prog 31 #[.int .i64 n] w fun e w' => e = .returned (.string ⟨(signedL n).toArray⟩) ∧ Below w.heap.size w w' := by
  have c := rDigits_any n.natAbs (by omega) w
  have HL := hide (repF_len chL 10 20 n.natAbs)
  have H0 := hide h0
  have H1 := hide h1
  by_cases hn : n < 0
  · have HR : Hid (signedL n = 45 :: dec n.natAbs) := by show _ = _; rw [signedL, if_pos hn]
    have ha := text_add [45] (dec n.natAbs) (by have := HL.out; unfold dec; simp; omega)
    rw [show ((n.natAbs : Nat) : Int) = -n from by omega] at c
    have hnb : n.natAbs < 9223372036854775808 := by omega
    have hw : IntKind.i64.wrap (-n) = -n := by rw [show -n = ((n.natAbs : Nat) : Int) from by omega]; exact wrap_i64_small _ hnb
    clear hnb h0 h1
    obtain ⟨R, hR0⟩ : ∃ R : ByteArray, R = (⟨(([45] : Bs) ++ dec n.natAbs).toArray⟩ : ByteArray) := ⟨_, rfl⟩
    have hR := hide hR0
    rw [← hR0] at ha
    clear hR0
    generalize (⟨(dec n.natAbs).toArray⟩ : ByteArray) = d at *
    have ha' : Op.stringOp .add ⟨#[45]⟩ d = pure (.string R) := ha
    clear ha
    go_enter Tryd.func31, Tryd.ntmps31
    go_wp2_with fail
    refine c.mono ?_
    rintro e w1 ⟨rfl, hb⟩
    have HB := hide hb
    go_wp2
    go_ret
    exact ⟨by rw [hR.out, HR.out]; rfl, HB.out⟩
  · have HR : Hid (signedL n = dec n.natAbs) := by show _ = _; rw [signedL, if_neg hn]
    rw [show ((n.natAbs : Nat) : Int) = n from by omega] at c
    clear h0 h1
    obtain ⟨R, hR⟩ : ∃ R, Hid (R = (⟨(dec n.natAbs).toArray⟩ : ByteArray)) := ⟨_, rfl⟩
    rw [← hR.out] at c
    go_enter Tryd.func31, Tryd.ntmps31
    go_wp2_with fail
    refine c.mono ?_
    rintro e w1 ⟨rfl, hb⟩
    have HB := hide hb
    go_wp2
    go_ret
    exact ⟨by rw [HR.out, ← hR.out]; rfl, HB.out⟩
theorem min_text : signedL (-9223372036854775808) = [45, 57, 50, 50, 51, 51, 55, 50, 48, 51, 54, 56, 53, 52, 55, 55, 53, 56, 48, 56] := by decide +kernel
set_option maxRecDepth 100000 in
theorem rsign_any (n : Int) (h0 : -9223372036854775808 ≤ n) (h1 : n ≤ 9223372036854775807) (w : World) : Calls Tryd.prog 15 #[.int .i64 n] w fun e w' => e = .returned (.string ⟨(Lib.itoa n).toArray⟩) ∧ Below w.heap.size w w' := by
  rw [itoa_dec n h0 h1]
  by_cases hn : n = -9223372036854775808
  · subst hn
    rw [min_text]
    clear h0 h1
    go_enter Tryd.func15, Tryd.ntmps15
    go_wp2
    go_ret
    exact ⟨rfl, Below.refl _ _⟩
  · have c := rsigned_any n (by omega) h1 w
    have hb : (n == -9223372036854775808) = false := by simpa using hn
    generalize (⟨(signedL n).toArray⟩ : ByteArray) = R at *
    clear h0 h1
    go_enter Tryd.func15, Tryd.ntmps15
    go_wp2_with (go_at_call 31; refine c.mono ?_; rintro e w1 ⟨rfl, b1⟩; have B1 := hide b1; clear b1)
    go_ret
    exact ⟨rfl, B1.out⟩
end Go.Proofs.YtmbgcpmapaedcaaDoor
