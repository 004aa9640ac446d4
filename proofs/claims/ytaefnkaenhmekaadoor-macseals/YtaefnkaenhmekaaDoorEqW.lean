/- The contract of mac.Equal: whether two texts are the same bytes. -/
import Derived.Test.YtaefnkaenhmekaaDoorKeyW
import Derived.BigQuiet
namespace Go.Proofs.YtaefnkaenhmekaaDoor
open Go.RowKit
theorem wrap64_small (n : Nat) (h : n < 9223372036854775808) : IntKind.i64.wrap (n : Int) = (n : Int) := by
  simp [IntKind.wrap, IntKind.bits, IntKind.signed]; omega
theorem ofInt64 (n : Nat) (h : n < 9223372036854775808) : (BitVec.ofInt 64 (n : Int)).toNat = n := by
  rw [BitVec.ofInt_natCast, BitVec.toNat_ofNat]; omega
theorem xor64 (x y : Nat) (hx : x < 9223372036854775808) (hy : y < 9223372036854775808) : bits .xor .i64 (x : Int) (y : Int) = ((x ^^^ y : Nat) : Int) := by
  have hl : x ^^^ y < 2 ^ 63 := Nat.xor_lt_two_pow hx hy
  show IntKind.i64.wrap ((BitVec.ofInt 64 (x : Int) ^^^ BitVec.ofInt 64 (y : Int)).toNat : Int) = _
  rw [BitVec.toNat_xor, ofInt64 x hx, ofInt64 y hy]
  exact wrap64_small _ hl
theorem or64 (x y : Nat) (hx : x < 9223372036854775808) (hy : y < 9223372036854775808) : bits .or .i64 (x : Int) (y : Int) = ((x ||| y : Nat) : Int) := by
  have hl : x ||| y < 2 ^ 63 := Nat.or_lt_two_pow hx hy
  show IntKind.i64.wrap ((BitVec.ofInt 64 (x : Int) ||| BitVec.ofInt 64 (y : Int)).toNat : Int) = _
  rw [BitVec.toNat_or, ofInt64 x hx, ofInt64 y hy]
  exact wrap64_small _ hl
theorem xor_zero_iff (x y : Nat) : x ^^^ y = 0 ↔ x = y := by
  constructor
  · intro h
    have : x ^^^ y ^^^ y = 0 ^^^ y := by rw [h]
    simpa [Nat.xor_assoc] using this
  · rintro rfl; exact Nat.xor_self x
theorem xor8_zero_iff (x y : UInt8) : (x ^^^ y).toNat = 0 ↔ x = y := by
  rw [UInt8.toNat_xor, xor_zero_iff]
  exact ⟨fun h => UInt8.toNat_inj.1 h, fun h => by rw [h]⟩
theorem take_more (a b : List UInt8) (k : Nat) (ha : k < a.length) (hb : k < b.length) : a.take (k + 1) = b.take (k + 1) ↔ a.take k = b.take k ∧ a[k] = b[k] := by
  rw [List.take_succ_eq_append_getElem ha, List.take_succ_eq_append_getElem hb]
  constructor
  · intro h
    have := List.append_inj h (by rw [List.length_take, List.length_take]; omega)
    exact ⟨this.1, by simpa using this.2⟩
  · rintro ⟨h1, h2⟩; rw [h1, h2]
/-- after k bytes: D is 0 just if all was the same so far -/
def EI (a b : ByteArray) (D k : Nat) : Prop := D < 9223372036854775808 ∧ (D = 0 ↔ a.size = b.size ∧ a.data.toList.take k = b.data.toList.take k)
theorem EI.start (a b : ByteArray) (ha : a.size < 9223372036854775808) (hb : b.size < 9223372036854775808) : EI a b (a.size ^^^ b.size) 0 :=
  ⟨Nat.xor_lt_two_pow (n := 63) ha hb, by rw [xor_zero_iff]; simp⟩
theorem EI.step {a b : ByteArray} {D k : Nat} (h : EI a b D k) (x y : UInt8) (ha : k < a.data.toList.length) (hb : k < b.data.toList.length) (hx : x = a.data.toList[k]) (hy : y = b.data.toList[k]) : EI a b (D ||| (x ^^^ y).toNat) (k + 1) := by
  subst hx hy
  refine ⟨Nat.or_lt_two_pow (n := 63) h.1 (Nat.lt_trans (UInt8.toNat_lt _) (by omega)), ?_⟩
  rw [Nat.or_eq_zero_iff, h.2, xor8_zero_iff, take_more _ _ _ ha hb, and_assoc]
theorem EI.done {a b : ByteArray} {D k : Nat} (h : EI a b D k) (hk : k = a.size ∨ k = b.size) : ((D : Int) == 0) = decide (a = b) := by
  have e : ((D : Int) == 0) = decide (D = 0) := by
    by_cases hd : D = 0
    · simp [hd]
    · simp [hd]
  rw [e]
  congr 1
  rw [h.2, eq_iff_iff]
  constructor
  · rintro ⟨h1, h2⟩
    have t1 : a.data.toList.take k = a.data.toList := List.take_of_length_le (by rw [text_len]; omega)
    have t2 : b.data.toList.take k = b.data.toList := List.take_of_length_le (by rw [text_len]; omega)
    rw [t1, t2] at h2
    exact ByteArray.ext (Array.toList_inj.1 h2)
  · rintro rfl; exact ⟨rfl, rfl⟩
theorem index_text (P : Program) (W : World) (s : ByteArray) (k : Nat) (c : UInt8) (hk : k < s.data.toList.length) (hc : c = s.data.toList[k]) (hu : P.underlying 9 = some .string) : (Instr.index 9 (.string s) (.int .i64 (k : Int))).run P W = .ok (.int .u8 (c.toNat : Int)) W := by
  have hlt : k < s.size := by rw [← text_len]; exact hk
  have e : s[k]? = some c := by rw [hc]; simp [hlt]; rfl
  simp only [Instr.index, asIntOf, Sem.run_bind, Sem.run_pure, Result.andThen_ok, run_underlying hu]
  rw [if_pos (by omega), Int.toNat_natCast]
  simp [e]
set_option maxRecDepth 100000 in
set_option maxHeartbeats 1600000 in
theorem equal_any (a b : ByteArray) (ha : a.size < 1152921504606846976) (hb : b.size < 1152921504606846976) (w : World) :
    Calls Tryd.prog 11 #[.string a, .string b] w fun e w' => e = .returned (.bool (decide (a = b))) ∧ Below w.heap.size w w' := by
  have hx := xor64 a.size b.size (by omega) (by omega)
  have hE : Hid (EI a b (a.size ^^^ b.size) 0) := EI.start a b (by omega) (by omega)
  generalize a.size ^^^ b.size = D0 at *
  obtain ⟨n, hn⟩ : ∃ n, n = Nat.min a.size b.size := ⟨_, rfl⟩
  have hn1 : n ≤ a.size := by rw [hn]; exact Nat.min_le_left _ _
  have hn2 : n ≤ b.size := by rw [hn]; exact Nat.min_le_right _ _
  have hn3 : n = a.size ∨ n = b.size := by rw [hn]; show min a.size b.size = _ ∨ min a.size b.size = _; omega
  have hmin : (if (b.size : Int) < (a.size : Int) then (b.size : Int) else (a.size : Int)) = (n : Int) := by rw [hn]; show _ = ((min a.size b.size : Nat) : Int); split <;> omega
  have hrun : ∀ (ts : Array TypeId) (t : TypeId) (W : World), (Builtin.min_ ts t #[.int .i64 (a.size : Int), .int .i64 (b.size : Int)]).run Tryd.prog W = .ok (.int .i64 (n : Int)) W := fun ts t W => by rw [run_min_int2, hmin]
  have hn4 : (n : Int) < 1152921504606846976 := by omega
  clear hn hmin ha hb
  go_enter Tryd.func11, Tryd.ntmps11
  go_wp2_with fail
  go_loopw [5, 17] (fun d i wr => ∃ k D : Nat, k ≤ n ∧ i = .int .i64 k ∧ d = .int .i64 D ∧ EI a b D k ∧ Below w.heap.size w wr) (fun _ i _ => n - (intOf i).toNat)
  case atStart => exact ⟨0, _, by omega, rfl, rfl, hE.out, Below.refl _ _⟩
  case round =>
    clear hE hx
    obtain ⟨k, D, hk, rfl, rfl, hI, hbel⟩ := hrel
    by_cases hlt : k < n
    · have i0 : (0 : Int) ≤ (k : Int) := by omega
      have i1 : (k : Int) < (n : Int) := by omega
      have ka : k < a.data.toList.length := by rw [text_len]; omega
      have kb : k < b.data.toList.length := by rw [text_len]; omega
      obtain ⟨x, hx⟩ : ∃ x, x = a.data.toList[k] := ⟨_, rfl⟩
      obtain ⟨y, hy⟩ : ∃ y, y = b.data.toList[k] := ⟨_, rfl⟩
      have x1 := fun W : World => index_text Tryd.prog W a k x ka hx Tryd.underlying9
      have x2 := fun W : World => index_text Tryd.prog W b k y kb hy Tryd.underlying9
      have ho := or64 D (x ^^^ y).toNat hI.1 (Nat.lt_trans (UInt8.toNat_lt _) (by omega))
      have hS : Hid (EI a b (D ||| (x ^^^ y).toNat) (k + 1)) := hI.step x y ka kb hx hy
      have hxy := xor8 x y
      have hc : (x ^^^ y).toNat < 256 := UInt8.toNat_lt _
      generalize (x ^^^ y).toNat = c at *
      generalize D ||| c = D2 at *
      have hc1 : (c : Int) < 256 := by omega
      have HB : Hid (Below w.heap.size w wr) := hbel
      clear hx hy ka kb hI hbel
      go_wp2
      go_quiet (fail)
      go_wp2
      go_roundw
      case rel => exact ⟨k + 1, _, by omega, by go_num, rfl, hS.out, ⟨HB.out.os, HB.out.tape, HB.out.output, HB.out.size, HB.out.block⟩⟩
      case measure => simp [intOf]; omega
    · have i1 : ¬ (k : Int) < (n : Int) := by omega
      have hd := hI.done (by omega)
      have HB : Hid (Below w.heap.size w wr) := hbel
      clear hI hbel
      go_wp2
      go_ret
      exact ⟨rfl, HB⟩
end Go.Proofs.YtaefnkaenhmekaaDoor
