/- The contracts of the document's Digits, Signed and hex. -/
import Derived.Test.YtfcnbiikjopajaaDoorShnW
import Derived.Laws.IdiomStrings
namespace Go.Proofs.YtfcnbiikjopajaaDoor
open Go.RowKit
theorem chL_byte (k : Nat) (h : k < 10) : (chL k).toNat = 48 + k := by
  unfold chL
  rw [if_pos h, UInt8.toNat_ofNat']
  omega
theorem dig_text (k : Nat) (h : k < 10) (u : World) : (convert 53 9 (.slice (some ⟨u.heap.size, 0, none⟩) 1 1)).run Tryd.prog (u.alloc (.cells #[.int .u8 (48 + (k : Int))] 5)) = .ok (.string ⟨[chL k].toArray⟩) (u.alloc (.cells #[.int .u8 (48 + (k : Int))] 5)) :=
  run_convert_bytes_back (P := Tryd.prog) (u.alloc (.cells #[.int .u8 (48 + (k : Int))] 5)) 53 9 5 ⟨u.heap.size, 0, none⟩ 1 [chL k] Tryd.underlying53 Tryd.underlying5 Tryd.underlying9 (fun i hi => by
    have hi0 : i = 0 := by simpa using hi
    subst hi0
    show _ = some (Value.int .u8 ((chL k).toNat : Int))
    rw [chL_byte k h]
    simp [Addr.add])
set_option maxRecDepth 100000 in
set_option maxHeartbeats 3200000 in
theorem rDigits_any (n : Nat) (hn : n < 9223372036854775808) (w : World) : Calls Tryd.prog 53 #[.int .i64 (n : Int)] w fun e w' => e = .returned (.string ⟨(dec n).toArray⟩) ∧ Below w.heap.size w w' := by
  have HP : Hid (n < 10 ^ 20) := Nat.lt_trans hn (by decide)
  go_enter Tryd.func53, Tryd.ntmps53
  go_wp2_with fail
  go_loopw [0, 3] (fun a s wr => ∃ (m f : Nat) (acc : Bs) (sb : ByteArray), a = .int .i64 (m : Int) ∧ s = .string sb ∧ m < 9223372036854775808 ∧ Hid (sb = ⟨acc.toArray⟩ ∧ m < 10 ^ (f + 1) ∧ repF chL 10 (f + 1) m ++ acc = dec n ∧ Below w.heap.size w wr)) (fun a _ _ => (intOf a).toNat)
  case atStart => exact ⟨n, 19, [], ⟨#[]⟩, rfl, rfl, hn, rfl, HP.out, by rw [List.append_nil]; rfl, Below.refl _ _⟩
  case round =>
    obtain ⟨m, f, acc, sb, rfl, rfl, hm, hh⟩ := hrel
    have m0 : (0 : Int) ≤ (m : Int) := by omega
    have m1 : (m : Int) < 9223372036854775808 := by omega
    have em : ((m % 10 : Nat) : Int) = (m : Int) % 10 := by omega
    have hlt : m % 10 < 10 := Nat.mod_lt _ (by omega)
    have hpc := fun u => dig_text (m % 10) hlt u
    rw [em] at hpc
    have HQ : Hid (((m / 10 : Nat) : Int) = (m : Int) / 10) := by show _ = _; omega
    have hsize : sb.size ≤ 80 := by
      have h1 := congrArg List.length hh.out.2.2.1
      rw [List.length_append] at h1
      have h3 : (dec n).length ≤ 20 := repF_len _ _ _ _
      rw [hh.out.1, list_size]
      omega
    have hch : (⟨[chL (m % 10)].toArray⟩ : ByteArray).size = 1 := rfl
    obtain ⟨sb3, hsb3⟩ : ∃ x : ByteArray, Hid (x = (⟨[chL (m % 10)].toArray⟩ : ByteArray) ++ sb) := ⟨_, rfl⟩
    have add3 : Op.stringOp .add ⟨[chL (m % 10)].toArray⟩ sb = pure (.string sb3) := by rw [hsb3.out]; exact str_add _ _ (by rw [hch]; omega)
    have HS : Hid (sb3 = ⟨(chL (m % 10) :: acc).toArray⟩) := by
      show _ = _
      rw [hsb3.out, hh.out.1, app_text]; rfl
    have HB := hide hh.out.2.2.2
    have zr := HB.out.size
    have HN : Hid (m / 10 ≠ 0 → ∃ f', f = f' + 1 ∧ m / 10 < 10 ^ (f' + 1) ∧ repF chL 10 (f' + 1) (m / 10) ++ (chL (m % 10) :: acc) = dec n) := fun h0 => by
      have hf : f ≠ 0 := fun e => by
        have := hh.out.2.1
        rw [e, Nat.zero_add, Nat.pow_one] at this
        exact h0 (Nat.div_eq_of_lt this)
      obtain ⟨f', rfl⟩ : ∃ f', f = f' + 1 := ⟨f - 1, by omega⟩
      refine ⟨f', rfl, ?_, ?_⟩
      · have := hh.out.2.1
        rw [Nat.pow_succ] at this
        exact Nat.div_lt_of_lt_mul (by rw [Nat.mul_comm]; exact this)
      · have e : repF chL 10 (f' + 1 + 1) m = repF chL 10 (f' + 1) (m / 10) ++ [chL (m % 10)] := by rw [repF, if_neg h0]
        rw [← hh.out.2.2.1, e, List.append_assoc]
        rfl
    have HZ : Hid (m / 10 = 0 → chL (m % 10) :: acc = dec n) := fun h0 => by
      rw [← hh.out.2.2.1, repF, if_pos h0]
      rfl
    have B1 := hide (HB.out.alloc zr (.cells #[.int .u8 (48 + (m : Int) % 10)] 5))
    generalize (⟨[chL (m % 10)].toArray⟩ : ByteArray) = cb at *
    clear hh hsize hch em
    by_cases h0 : m / 10 = 0
    · have HE := hide (HZ.out h0)
      have i0 : (m : Int) / 10 = 0 := by omega
      clear HN HZ h0
      go_wp2
      go_ret
      exact ⟨by rw [← HE.out, ← HS.out]; rfl, B1.out⟩
    · have HE := hide (HN.out h0)
      have i0 : ¬ (m : Int) / 10 = 0 := by omega
      have i1 := hide (show m / 10 < m by omega)
      have hw : IntKind.i64.wrap ((m : Int) / 10) = (m : Int) / 10 := by rw [← HQ.out]; exact wrap_i64_small _ (by omega)
      have HM := hide hm
      clear HN HZ hm m1 h0
      go_wp2
      go_roundw
      case rel =>
        obtain ⟨f', _, q1, q2⟩ := HE.out
        exact ⟨m / 10, f', _, sb3, by rw [HQ.out], rfl, by have := HM.out; omega, HS.out, q1, q2, B1.out⟩
      case measure =>
        have := i1.out
        simp [intOf]; omega
set_option maxRecDepth 100000 in
set_option maxHeartbeats 3200000 in
theorem rsigned_any (n : Int) (h0 : -2147483648 ≤ n) (h1 : n ≤ 2147483648) (w : World) : Calls Tryd.prog 55 #[.int .i64 n] w fun e w' => e = .returned (.string ⟨(signedL n).toArray⟩) ∧ Below w.heap.size w w' := by
  have c := rDigits_any n.natAbs (by omega) w
  have HL := hide (repF_len chL 10 20 n.natAbs)
  by_cases hn : n < 0
  · have HR : Hid (signedL n = 45 :: dec n.natAbs) := by show _ = _; rw [signedL, if_pos hn]
    have ha := text_add [45] (dec n.natAbs) (by have := HL.out; unfold dec; simp; omega)
    rw [show ((n.natAbs : Nat) : Int) = -n from by omega] at c
    have hw : IntKind.i64.wrap (-n) = -n := by rw [show -n = ((n.natAbs : Nat) : Int) from by omega]; exact wrap_i64_small _ (by omega)
    obtain ⟨R, hR0⟩ : ∃ R : ByteArray, R = (⟨(([45] : Bs) ++ dec n.natAbs).toArray⟩ : ByteArray) := ⟨_, rfl⟩
    have hR := hide hR0
    rw [← hR0] at ha
    clear hR0
    generalize (⟨(dec n.natAbs).toArray⟩ : ByteArray) = d at *
    have ha' : Op.stringOp .add ⟨#[45]⟩ d = pure (.string R) := ha
    clear ha
    go_enter Tryd.func55, Tryd.ntmps55
    go_wp2_with fail
    refine c.mono ?_
    rintro e w1 ⟨rfl, hb⟩
    have HB := hide hb
    go_wp2
    go_ret
    exact ⟨by rw [hR.out, HR.out]; rfl, HB.out⟩
  · have HR : Hid (signedL n = dec n.natAbs) := by show _ = _; rw [signedL, if_neg hn]
    rw [show ((n.natAbs : Nat) : Int) = n from by omega] at c
    obtain ⟨R, hR⟩ : ∃ R, Hid (R = (⟨(dec n.natAbs).toArray⟩ : ByteArray)) := ⟨_, rfl⟩
    rw [← hR.out] at c
    go_enter Tryd.func55, Tryd.ntmps55
    go_wp2_with fail
    refine c.mono ?_
    rintro e w1 ⟨rfl, hb⟩
    have HB := hide hb
    go_wp2
    go_ret
    exact ⟨by rw [HR.out, ← hR.out]; rfl, HB.out⟩
theorem hex_cut (k : Nat) (h : k < 16) (W : World) : (Instr.slice 9 (.string ⟨#[48, 49, 50, 51, 52, 53, 54, 55, 56, 57, 65, 66, 67, 68, 69, 70]⟩) (some (.int .u32 (k : Int))) (some (.int .u32 ((k : Int) + 1))) none).run Tryd.prog W = .ok (.string ⟨[chU k].toArray⟩) W := by
  have e : ∀ k : Fin 16, (Instr.slice 9 (.string ⟨#[48, 49, 50, 51, 52, 53, 54, 55, 56, 57, 65, 66, 67, 68, 69, 70]⟩) (some (.int .u32 (k.val : Int))) (some (.int .u32 ((k.val : Int) + 1))) none).run Tryd.prog W = .ok (.string ⟨[chU k.val].toArray⟩) W := by
    intro k
    have hk := k.isLt
    have hi : (0 : Int) ≤ (k.val : Int) + 1 ∧ (k.val : Int) + 1 ≤ 16 := by omega
    have he : ∀ k : Fin 16, (⟨#[48, 49, 50, 51, 52, 53, 54, 55, 56, 57, 65, 66, 67, 68, 69, 70]⟩ : ByteArray).extract k.val (k.val + 1) = ⟨#[chU k.val]⟩ := by decide
    have := he k
    simp [go_sem, Instr.slice, hi, this]
  exact e ⟨k, h⟩
theorem ofNat32 (x : Nat) (h : x < 4294967296) : (BitVec.ofInt 32 (x : Int)).toNat = x := by
  rw [BitVec.toNat_ofInt]; omega
theorem and_15u (x : Nat) (h : x < 4294967296) : bits .and .u32 (x : Int) 15 = ((x % 16 : Nat) : Int) := by
  show IntKind.u32.wrap ((BitVec.ofInt 32 (x : Int) &&& BitVec.ofInt 32 15).toNat : Int) = _
  rw [BitVec.toNat_and, ofNat32 x h, show (BitVec.ofInt 32 15).toNat = 2 ^ 4 - 1 from rfl, Nat.and_two_pow_sub_one_eq_mod]
  simp only [IntKind.wrap, IntKind.bits, IntKind.signed]
  simp
  omega
theorem hex_at (m j : Nat) (h : j < 8) : (hex8 m)[j]? = some (chU (m / 2 ^ (4 * (7 - j)) % 16)) := by
  have : j = 0 ∨ j = 1 ∨ j = 2 ∨ j = 3 ∨ j = 4 ∨ j = 5 ∨ j = 6 ∨ j = 7 := by omega
  rcases this with rfl | rfl | rfl | rfl | rfl | rfl | rfl | rfl <;> simp [hex8]
set_option maxRecDepth 100000 in
set_option maxHeartbeats 3200000 in
theorem rhex_any (n : Int) (w : World) : Calls Tryd.prog 52 #[.int .i64 n] w fun e w' => e = .returned (.string ⟨(hex8 (n % 4294967296).toNat).toArray⟩) ∧ Below w.heap.size w w' := by
  obtain ⟨m, hm⟩ : ∃ m : Nat, m = (n % 4294967296).toNat := ⟨_, rfl⟩
  have fw : IntKind.u32.wrap n = (m : Int) := by
    simp only [IntKind.wrap, IntKind.bits, IntKind.signed]
    simp
    omega
  have hm4 : m < 4294967296 := by omega
  rw [← hm]
  clear hm
  have HM := hide hm4
  clear hm4
  go_enter Tryd.func52, Tryd.ntmps52
  go_wp2_with fail
  go_loopw [3, 4] (fun s i wr => ∃ (j : Nat) (sb : ByteArray) (iv : Int), j ≤ 8 ∧ s = .string sb ∧ i = .int .i64 iv ∧ Hid (iv = 7 - (j : Int) ∧ sb = ⟨((hex8 m).take j).toArray⟩ ∧ Below w.heap.size w wr)) (fun _ i _ => ((intOf i) + 1).toNat)
  case atStart => exact ⟨0, ⟨#[]⟩, 7, by omega, rfl, rfl, by omega, rfl, Below.refl _ _⟩
  case round =>
    obtain ⟨j, sb, i, hj, rfl, rfl, hh⟩ := hrel
    have hi := hh.out.1
    have HS := hide hh.out.2.1
    have HB := hide hh.out.2.2
    have HI := hide hi
    clear hh
    by_cases hlt : j < 8
    · have j0 : (0 : Int) ≤ i := by omega
      have j7 : i ≤ 7 := by omega
      obtain ⟨K, hK⟩ : ∃ K : Int, K = 4 * i := ⟨_, rfl⟩
      have hmul : IntKind.i64.wrap (4 * i) = K := by rw [hK, show 4 * i = ((4 * (7 - j) : Nat) : Int) from by omega]; exact wrap_i64_small _ (by omega)
      have k0 : 0 ≤ K := by omega
      have k1 : K ≤ 28 := by omega
      have hKn : K.toNat = 4 * (7 - j) := by omega
      obtain ⟨V, hV⟩ : ∃ V : Nat, V = m / 2 ^ (4 * (7 - j)) := ⟨_, rfl⟩
      have fsh : (m : Int) / 2 ^ K.toNat = (V : Int) := by
        rw [hKn, hV]
        have : ((2 : Int) ^ (4 * (7 - j))) = ((2 ^ (4 * (7 - j)) : Nat) : Int) := by rw [Int.natCast_pow]; rfl
        rw [this]
        exact (Int.natCast_ediv _ _).symm
      have hVm : V ≤ m := by rw [hV]; exact Nat.div_le_self _ _
      have hand := and_15u V (Nat.lt_of_le_of_lt hVm HM.out)
      have hd : V % 16 < 16 := Nat.mod_lt _ (by decide)
      have hcut := fun W => hex_cut (V % 16) hd W
      have HT : Hid ((hex8 m).take (j + 1) = (hex8 m).take j ++ [chU (V % 16)]) := by
        show _ = _
        rw [List.take_add_one, hex_at m j hlt, hV]; rfl
      have hsz : sb.size ≤ 8 := by
        rw [HS.out, list_size, List.length_take]; omega
      have hd1 : IntKind.u32.wrap (((V % 16 : Nat) : Int) + 1) = ((V % 16 : Nat) : Int) + 1 := by
        simp only [IntKind.wrap, IntKind.bits, IntKind.signed]
        simp
        omega
      obtain ⟨sb2, hsb⟩ : ∃ x : ByteArray, x = sb ++ (⟨[chU (V % 16)].toArray⟩ : ByteArray) := ⟨_, rfl⟩
      have add3 : Op.stringOp .add sb ⟨[chU (V % 16)].toArray⟩ = pure (.string sb2) := by rw [hsb]; exact str_add _ _ (by show sb.size + 1 ≤ 1000000; omega)
      have HS2 : Hid (sb2 = ⟨((hex8 m).take (j + 1)).toArray⟩) := by
        show _ = _
        rw [hsb, HS.out, HT.out, app_text]
      generalize (⟨[chU (V % 16)].toArray⟩ : ByteArray) = cb at *
      generalize ((V % 16 : Nat) : Int) = D at *
      clear hK hKn hV hVm hd hsz hsb HS HT hi
      go_wp2
      go_quiet (fail)
      go_wp2
      go_roundw
      case rel => exact ⟨j + 1, sb2, i - 1, by omega, rfl, rfl, by have := HI.out; omega, HS2.out, below_drawn HB.out _⟩
      case measure => simp [intOf]; omega
    · have j0 : i < 0 := by omega
      have HE : Hid ((hex8 m).take j = hex8 m) := List.take_of_length_le (by show 8 ≤ j; omega)
      clear hi HI
      go_wp2
      go_ret
      exact ⟨by rw [← HE.out, ← HS.out]; rfl, HB.out⟩
end Go.Proofs.YtfcnbiikjopajaaDoor
