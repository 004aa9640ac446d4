/- The contract of formatBits at base 16. -/
import Derived.Test.YtfcnbiikjopajaaDoorHexW
import Derived.Test.YtfcnbiikjopajaaDoorMgC
namespace Go.Proofs.YtfcnbiikjopajaaDoor
open Go.RowKit
theorem ofNat64 (x : Nat) (h : x < 18446744073709551616) : (BitVec.ofInt 64 (x : Int)).toNat = x := by
  rw [BitVec.toNat_ofInt]; omega
theorem and_15 (x : Nat) (h : x < 18446744073709551616) : bits .and .u64 (x : Int) 15 = ((x % 16 : Nat) : Int) := by
  show IntKind.u64.wrap ((BitVec.ofInt 64 (x : Int) &&& BitVec.ofInt 64 15).toNat : Int) = _
  rw [BitVec.toNat_and, ofNat64 x h, show (BitVec.ofInt 64 15).toNat = 2 ^ 4 - 1 from rfl, Nat.and_two_pow_sub_one_eq_mod]
  simp only [IntKind.wrap, IntKind.bits, IntKind.signed]
  simp
  omega
theorem zero124 : Tryd.zeroCells124 = Array.replicate 65 (.int .u8 0) := by kernel_rfl
/-- the block of 65 bytes, filled from its end -/
def HxS (w : World) (D : Bs) (W : World) : Prop := Below w.heap.size w W ∧ (∀ j, j < 65 → W.frozen? ⟨w.heap.size, j, none⟩ = false ∧ ∃ v, W.cell? ⟨w.heap.size, j, none⟩ = some v) ∧ ∀ t c, D[t]? = some c → W.cell? ⟨w.heap.size, 65 - D.length + t, none⟩ = some (.int .u8 (c.toNat : Int))
theorem hx_start (w : World) : HxS w [] (w.alloc (.cells Tryd.zeroCells124 124)) := by
  refine ⟨(Below.refl _ _).alloc (Nat.le_refl _) _, fun j hj => ⟨by simp, .int .u8 0, ?_⟩, fun t c h => by cases h⟩
  rw [zero124]
  simp [hj]
theorem HxS.push {w W : World} {D : Bs} (h : HxS w D W) (c : UInt8) (q : Nat) (hq : q + 1 + D.length = 65) : HxS w (c :: D) (W.setCell ⟨w.heap.size, q, none⟩ (.int .u8 (c.toNat : Int))) := by
  obtain ⟨h1, h2, h3⟩ := h
  obtain ⟨_, v, hv⟩ := h2 q (by omega)
  refine ⟨h1.setCell (Nat.le_refl _) _, fun j hj => ?_, fun t d hd => ?_⟩
  · obtain ⟨g1, u, g2⟩ := h2 j hj
    refine ⟨by rw [World.frozen?_setCell]; exact g1, ?_⟩
    by_cases e : j = q
    · subst e; exact ⟨_, World.cell?_setCell_same _ _ _ hv⟩
    · exact ⟨u, by rw [World.cell?_setCell_other _ _ _ _ (fun x => e (congrArg Addr.off x).symm)]; exact g2⟩
  · match t, hd with
    | 0, hd =>
      injection hd with hd
      subst hd
      rw [show 65 - (c :: D).length + 0 = q from by simp; omega]
      exact World.cell?_setCell_same _ _ _ hv
    | t + 1, hd =>
      have hlt := (List.getElem?_eq_some_iff.1 hd).1
      rw [World.cell?_setCell_other _ _ _ _ (fun x => by have := congrArg Addr.off x; simp at this; omega), show 65 - (c :: D).length + (t + 1) = 65 - D.length + t from by simp; omega]
      exact h3 t d hd
theorem run_idxU (s : ByteArray) (k : Nat) (c : UInt8) (h : s.data.toList[k]? = some c) (W : World) : (Instr.index 9 (.string s) (.int .u64 (k : Int))).run Tryd.prog W = .ok (.int .u8 (c.toNat : Int)) W := by
  have e : s[k]? = some c := by
    have hk : k < s.size := by rw [← text_len]; exact (List.getElem?_eq_some_iff.1 h).1
    rw [Array.getElem?_toList] at h
    have h' := (Array.getElem?_eq_some_iff.1 h).2
    simp [hk]; exact h'
  have hk : k < s.size := by rw [← text_len]; exact (List.getElem?_eq_some_iff.1 h).1
  simp only [Instr.index, asIntOf, Sem.run_bind, Sem.run_pure, Result.andThen_ok, run_underlying Tryd.underlying9]
  rw [if_pos (by omega), Int.toNat_natCast]
  simp [e]
theorem hex_idx (k : Nat) (h : k < 16) : ∀ W, (Instr.index 9 (.string ⟨#[48, 49, 50, 51, 52, 53, 54, 55, 56, 57, 97, 98, 99, 100, 101, 102, 103, 104, 105, 106, 107, 108, 109, 110, 111, 112, 113, 114, 115, 116, 117, 118, 119, 120, 121, 122]⟩) (.int .u64 (k : Int))).run Tryd.prog W = .ok (.int .u8 ((chL k).toNat : Int)) W := fun W =>
  run_idxU ⟨#[48, 49, 50, 51, 52, 53, 54, 55, 56, 57, 97, 98, 99, 100, 101, 102, 103, 104, 105, 106, 107, 108, 109, 110, 111, 112, 113, 114, 115, 116, 117, 118, 119, 120, 121, 122]⟩ k (chL k) (by
    have : ∀ k : Fin 16, (#[48, 49, 50, 51, 52, 53, 54, 55, 56, 57, 97, 98, 99, 100, 101, 102, 103, 104, 105, 106, 107, 108, 109, 110, 111, 112, 113, 114, 115, 116, 117, 118, 119, 120, 121, 122] : Array UInt8).toList[k.val]? = some (chL k.val) := by decide +kernel
    exact this ⟨k, h⟩) W
theorem hex_text {w W : World} {D : Bs} (h : HxS w D W) (q : Nat) (hq : q + D.length = 65) : (convert 53 9 (.slice (some ⟨w.heap.size, q, none⟩) (65 - q) (65 - q))).run Tryd.prog W = .ok (.string ⟨D.toArray⟩) W := by
  have := run_convert_bytes_back (P := Tryd.prog) W 53 9 5 ⟨w.heap.size, q, none⟩ (65 - q) D Tryd.underlying53 Tryd.underlying5 Tryd.underlying9 (fun j hj => by
    have h3 := h.2.2 j D[j] (List.getElem?_eq_getElem hj)
    rw [show 65 - D.length = q from by omega] at h3
    rw [Addr.add_mid]
    exact h3)
  rw [show D.length = 65 - q from by omega] at this
  exact this
theorem slice124 (g q : Nat) (hq : q < 65) (W : World) : (Instr.sliceAt 124 (.pointer (some ⟨g, 0, none⟩)) (some (.int .i64 (q : Int))) none none).run Tryd.prog W = .ok (.slice (some ⟨g, q, none⟩) (65 - q) (65 - q)) W := by
  have hl : Tryd.prog.arrayLen 124 = 65 := by kernel_rfl
  have he : Tryd.prog.elem 124 = 5 := by kernel_rfl
  have h := run_sliceAt_array_l (P := Tryd.prog) W 124 ⟨g, 0, none⟩ (by rw [hl, he]; exact Tryd.underlying124) .i64 (q : Int) (by omega) (by rw [hl]; omega)
  rw [hl, he] at h
  rw [h, Tryd.sizeOf5, Result.andThen_ok]
  unfold slicedAt
  rw [Int.toNat_natCast, if_neg (by omega), Addr.add_mid, Nat.mul_one, Nat.zero_add]
def hexI (neg : Bool) (n : Nat) : Bs := if neg then 45 :: repF chL 16 17 n else repF chL 16 17 n
set_option maxRecDepth 100000 in
set_option maxHeartbeats 3200000 in
theorem fb_any (n : Nat) (hn : n < 18446744073709551616) (w : World) (h : w.cell? ⟨8, 15, none⟩ = some (.int .u8 4)) (h8 : 8 < w.heap.size) : Calls Tryd.prog 83 #[.slice none 0 0, .int .u64 (n : Int), .int .i64 16, .bool false, .bool false] w fun e w' => e = .returned (.tuple #[.slice none 0 0, .string ⟨(hexI false n).toArray⟩]) ∧ Below w.heap.size w w' := by
  have c1 := fun W => isPow_16 W
  have c2 := fun W h => tz_16 W h
  have HNn := hide hn
  obtain ⟨N, hN⟩ : ∃ N : Int, N = (n : Int) := ⟨_, rfl⟩
  rw [← hN]
  have HN := hide hN
  clear hN hn
  go_enter Tryd.func83, Tryd.ntmps83
  go_wp2_with fail
  refine (c1 _).mono ?_
  rintro e w1 ⟨rfl, hw1⟩
  have hx0 : HxS w [] w1 := by rw [hw1]; exact hx_start w
  have h15 := (hx0.1.cell (p := ⟨8, 15, none⟩) h8).trans h
  clear hw1 c1
  go_wp2_with fail
  refine (c2 _ h15).mono ?_
  rintro e w2 ⟨rfl, hw2⟩
  subst hw2
  have HX0 := hide hx0
  clear c2 hx0 h15 h
  go_wp2_with fail
  go_loopw [1, 13] (fun uv iv wr => ∃ (x f : Nat) (D : Bs) (p : Nat), uv = .int .u64 (x : Int) ∧ iv = .int .i64 (p : Int) ∧ p + D.length = 65 ∧ D.length + f = 17 ∧ Hid (0 < f ∧ x < 16 ^ f ∧ x < 18446744073709551616 ∧ repF chL 16 17 n = repF chL 16 f x ++ D ∧ HxS w D wr)) (fun uv _ _ => (intOf uv).toNat)
  case atStart => exact ⟨n, 17, [], 65, by rw [HN.out], rfl, rfl, rfl, by omega, by have := HNn.out; omega, HNn.out, by simp, HX0.out⟩
  case round =>
    obtain ⟨x, f, D, p, rfl, rfl, hpD, hDf, hh⟩ := hrel
    obtain ⟨hf0, hf, hx64, hrep, hS⟩ := hh.out
    have hp1 : 48 ≤ p := by omega
    have p65 : (p : Int) ≤ 65 := by omega
    have p48 : (48 : Int) ≤ (p : Int) := by omega
    obtain ⟨q, hq⟩ : ∃ q : Nat, p = q + 1 := ⟨p - 1, by omega⟩
    have e1 : (p : Int) - 1 = (q : Int) := by omega
    have q0 : (0 : Int) ≤ (q : Int) := by omega
    have q65 : (q : Int) < 65 := by omega
    obtain ⟨hfr, v0, hv0⟩ := hS.2.1 q (by omega)
    by_cases hb : 16 ≤ x
    · obtain ⟨f', rfl⟩ : ∃ f', f = f' + 1 := ⟨f - 1, by omega⟩
      have HR : Hid (repF chL 16 17 n = repF chL 16 f' (x / 16) ++ (chL (x % 16) :: D)) := by
        show _ = _
        rw [hrep, repF, if_neg (by omega), List.append_assoc]; rfl
      have HF : Hid (x / 16 < 16 ^ f') := by show _ < _; rw [Nat.pow_succ] at hf; omega
      have HF0 : Hid (0 < f') := by
        show _ < _
        rcases Nat.eq_zero_or_pos f' with h0 | h0
        · have := HF.out; rw [h0] at this; omega
        · exact h0
      have HS2 := hide (hS.push (chL (x % 16)) q (by omega))
      have ix := hex_idx (x % 16) (by omega)
      have ea := and_15 x hx64
      have es : (x : Int) / 16 = ((x / 16 : Nat) : Int) := by omega
      have X16 : (16 : Int) ≤ (x : Int) := by omega
      have HP := hide (And.intro hpD (And.intro hDf hq))
      have HX64 := hide hx64
      clear hh hf hf0 hx64 hrep hS hp1 hpD hDf hq hb
      generalize ((chL (x % 16)).toNat : Int) = c at *
      generalize ((x % 16 : Nat) : Int) = y at *
      generalize hX : (x : Int) = X at *
      generalize hX2 : ((x / 16 : Nat) : Int) = X2 at *
      have HXX := hide (And.intro hX hX2)
      clear hX hX2
      go_wp2
      go_roundw
      case rel => exact ⟨x / 16, f', chL (x % 16) :: D, q, by rw [HXX.out.2], rfl, by have := HP.out; simp; omega, by have := HP.out; simp; omega, HF0.out, HF.out, by have := HX64.out; omega, HR.out, HS2.out⟩
      case measure => simp only [intOf]; have := HXX.out; omega
    · obtain ⟨f', rfl⟩ : ∃ f', f = f' + 1 := ⟨f - 1, by omega⟩
      have HR : Hid (repF chL 16 17 n = chL x :: D) := by
        show _ = _
        rw [hrep, repF, if_pos (by omega), Nat.mod_eq_of_lt (by omega)]; rfl
      have HS2 := hide (hS.push (chL x) q (by omega))
      have ix := hex_idx x (by omega)
      have X16 : ¬ (16 : Int) ≤ (x : Int) := by omega
      have HP := hide (And.intro hpD (And.intro hDf hq))
      have hconv := hex_text HS2.out q (by simp; omega)
      have hsl := slice124 w.heap.size q (by omega)
      clear hh hf hf0 hx64 hrep hS hp1 hpD hDf hq hb
      generalize hc : ((chL x).toNat : Int) = c at *
      generalize (x : Int) = X at *
      clear hc
      go_wp2
      go_ret2
      exact ⟨by show Ending.returned (.tuple #[.slice none 0 0, .string ⟨(chL x :: D).toArray⟩]) = _; rw [← HR.out]; rfl, HS2.out.1⟩

set_option maxRecDepth 100000 in
set_option maxHeartbeats 3200000 in
theorem fb_neg (n : Nat) (hn : n < 18446744073709551616) (U : Int) (hU : IntKind.u64.wrap (-U) = (n : Int)) (w : World) (h : w.cell? ⟨8, 15, none⟩ = some (.int .u8 4)) (h8 : 8 < w.heap.size) : Calls Tryd.prog 83 #[.slice none 0 0, .int .u64 U, .int .i64 16, .bool true, .bool false] w fun e w' => e = .returned (.tuple #[.slice none 0 0, .string ⟨(hexI true n).toArray⟩]) ∧ Below w.heap.size w w' := by
  have c1 := fun W => isPow_16 W
  have c2 := fun W h => tz_16 W h
  have HNn := hide hn
  obtain ⟨N, hN⟩ : ∃ N : Int, N = (n : Int) := ⟨_, rfl⟩
  rw [← hN] at hU
  have HN := hide hN
  clear hN hn
  go_enter Tryd.func83, Tryd.ntmps83
  go_wp2_with fail
  refine (c1 _).mono ?_
  rintro e w1 ⟨rfl, hw1⟩
  have hx0 : HxS w [] w1 := by rw [hw1]; exact hx_start w
  have h15 := (hx0.1.cell (p := ⟨8, 15, none⟩) h8).trans h
  clear hw1 c1
  go_wp2_with fail
  refine (c2 _ h15).mono ?_
  rintro e w2 ⟨rfl, hw2⟩
  subst hw2
  have HX0 := hide hx0
  clear c2 hx0 h15 h
  go_wp2_with fail
  go_loopw [1, 13] (fun uv iv wr => ∃ (x f : Nat) (D : Bs) (p : Nat), uv = .int .u64 (x : Int) ∧ iv = .int .i64 (p : Int) ∧ p + D.length = 65 ∧ D.length + f = 17 ∧ Hid (0 < f ∧ x < 16 ^ f ∧ x < 18446744073709551616 ∧ repF chL 16 17 n = repF chL 16 f x ++ D ∧ HxS w D wr)) (fun uv _ _ => (intOf uv).toNat)
  case atStart => exact ⟨n, 17, [], 65, by rw [HN.out], rfl, rfl, rfl, by omega, by have := HNn.out; omega, HNn.out, by simp, HX0.out⟩
  case round =>
    obtain ⟨x, f, D, p, rfl, rfl, hpD, hDf, hh⟩ := hrel
    obtain ⟨hf0, hf, hx64, hrep, hS⟩ := hh.out
    have hp1 : 48 ≤ p := by omega
    have p65 : (p : Int) ≤ 65 := by omega
    have p48 : (48 : Int) ≤ (p : Int) := by omega
    obtain ⟨q, hq⟩ : ∃ q : Nat, p = q + 1 := ⟨p - 1, by omega⟩
    have e1 : (p : Int) - 1 = (q : Int) := by omega
    have q0 : (0 : Int) ≤ (q : Int) := by omega
    have q65 : (q : Int) < 65 := by omega
    obtain ⟨hfr, v0, hv0⟩ := hS.2.1 q (by omega)
    by_cases hb : 16 ≤ x
    · obtain ⟨f', rfl⟩ : ∃ f', f = f' + 1 := ⟨f - 1, by omega⟩
      have HR : Hid (repF chL 16 17 n = repF chL 16 f' (x / 16) ++ (chL (x % 16) :: D)) := by
        show _ = _
        rw [hrep, repF, if_neg (by omega), List.append_assoc]; rfl
      have HF : Hid (x / 16 < 16 ^ f') := by show _ < _; rw [Nat.pow_succ] at hf; omega
      have HF0 : Hid (0 < f') := by
        show _ < _
        rcases Nat.eq_zero_or_pos f' with h0 | h0
        · have := HF.out; rw [h0] at this; omega
        · exact h0
      have HS2 := hide (hS.push (chL (x % 16)) q (by omega))
      have ix := hex_idx (x % 16) (by omega)
      have ea := and_15 x hx64
      have es : (x : Int) / 16 = ((x / 16 : Nat) : Int) := by omega
      have X16 : (16 : Int) ≤ (x : Int) := by omega
      have HP := hide (And.intro hpD (And.intro hDf hq))
      have HX64 := hide hx64
      clear hh hf hf0 hx64 hrep hS hp1 hpD hDf hq hb
      generalize ((chL (x % 16)).toNat : Int) = c at *
      generalize ((x % 16 : Nat) : Int) = y at *
      generalize hX : (x : Int) = X at *
      generalize hX2 : ((x / 16 : Nat) : Int) = X2 at *
      have HXX := hide (And.intro hX hX2)
      clear hX hX2
      go_wp2
      go_roundw
      case rel => exact ⟨x / 16, f', chL (x % 16) :: D, q, by rw [HXX.out.2], rfl, by have := HP.out; simp; omega, by have := HP.out; simp; omega, HF0.out, HF.out, by have := HX64.out; omega, HR.out, HS2.out⟩
      case measure => simp only [intOf]; have := HXX.out; omega
    · obtain ⟨f', rfl⟩ : ∃ f', f = f' + 1 := ⟨f - 1, by omega⟩
      have HR : Hid (repF chL 16 17 n = chL x :: D) := by
        show _ = _
        rw [hrep, repF, if_pos (by omega), Nat.mod_eq_of_lt (by omega)]; rfl
      have HS2 := hide (hS.push (chL x) q (by omega))
      have ix := hex_idx x (by omega)
      have X16 : ¬ (16 : Int) ≤ (x : Int) := by omega
      have HP := hide (And.intro hpD (And.intro hDf hq))
      obtain ⟨r, hr⟩ : ∃ r : Nat, q = r + 1 := ⟨q - 1, by omega⟩
      have HS3 : Hid (HxS w (45 :: chL x :: D) ((wr.setCell ⟨w.heap.size, q, none⟩ (.int .u8 ((chL x).toNat : Int))).setCell ⟨w.heap.size, r, none⟩ (.int .u8 45))) := HS2.out.push 45 r (by simp; omega)
      obtain ⟨hfr2, v2, hv2⟩ := HS2.out.2.1 r (by omega)
      have hconv := hex_text HS3.out r (by simp; omega)
      have hsl := slice124 w.heap.size r (by omega)
      have e2 : (q : Int) - 1 = (r : Int) := by omega
      have r0 : (0 : Int) ≤ (r : Int) := by omega
      have r65 : (r : Int) < 65 := by omega
      clear hh hf hf0 hx64 hrep hS hp1 hpD hDf hq hb hr
      generalize hc : ((chL x).toNat : Int) = c at *
      generalize (x : Int) = X at *
      clear hc
      go_wp2
      go_ret2
      exact ⟨by show Ending.returned (.tuple #[.slice none 0 0, .string ⟨(45 :: chL x :: D).toArray⟩]) = _; rw [← HR.out]; rfl, HS3.out.1⟩
theorem fmt16 (i : Int) (h0 : -9223372036854775808 ≤ i) (h1 : i ≤ 9223372036854775807) (w : World) (h : w.cell? ⟨8, 15, none⟩ = some (.int .u8 4)) (h8 : 8 < w.heap.size) : Calls Tryd.prog 67 #[.int .i64 i, .int .i64 16] w fun e w' => e = .returned (.string ⟨(hexI (decide (i < 0)) i.natAbs).toArray⟩) ∧ Below w.heap.size w w' := by
  by_cases hi : i < 0
  · rw [decide_eq_true hi]
    have c := fb_neg i.natAbs (by omega) (IntKind.u64.wrap i) (by simp only [IntKind.wrap, IntKind.bits, IntKind.signed]; simp; omega) w h h8
    generalize (⟨(hexI true i.natAbs).toArray⟩ : ByteArray) = t at *
    clear h h8 h0 h1
    go_enter Tryd.func67, Tryd.ntmps67
    go_wp2_with fail
    refine c.mono ?_
    rintro e w1 ⟨rfl, hb⟩
    go_wp2
    go_ret
    exact ⟨rfl, hb⟩
  · rw [decide_eq_false hi]
    have c := fb_any i.natAbs (by omega) w h h8
    have e1 : IntKind.u64.wrap i = ((i.natAbs : Nat) : Int) := by simp only [IntKind.wrap, IntKind.bits, IntKind.signed]; simp; omega
    generalize (⟨(hexI false i.natAbs).toArray⟩ : ByteArray) = t at *
    generalize ((i.natAbs : Nat) : Int) = N at *
    clear h h8 h0 h1
    go_enter Tryd.func67, Tryd.ntmps67
    go_wp2_with fail
    refine c.mono ?_
    rintro e w1 ⟨rfl, hb⟩
    go_wp2
    go_ret
    exact ⟨rfl, hb⟩
theorem formatInt16 (i : Int) (h0 : -9223372036854775808 ≤ i) (h1 : i ≤ 9223372036854775807) (w : World) (h : w.cell? ⟨8, 15, none⟩ = some (.int .u8 4)) (h8 : 8 < w.heap.size) : Calls Tryd.prog 51 #[.int .i64 i, .int .i64 16] w fun e w' => e = .returned (.string ⟨(hexI (decide (i < 0)) i.natAbs).toArray⟩) ∧ Below w.heap.size w w' := by
  have c := fmt16 i h0 h1 w h h8
  generalize (⟨(hexI (decide (i < 0)) i.natAbs).toArray⟩ : ByteArray) = t at *
  clear h h8 h0 h1
  go_enter Tryd.func51, Tryd.ntmps51
  go_wp2_with fail
  refine c.mono ?_
  rintro e w1 ⟨rfl, hb⟩
  go_wp2
  go_ret
  exact ⟨rfl, hb⟩
end Go.Proofs.YtfcnbiikjopajaaDoor
