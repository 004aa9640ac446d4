/- The walk of the law MacTurns. -/
import Derived.Test.YtaefnkaenhmekaaDoorBackW
import Derived.Test.YtaefnkaenhmekaaDoorPadX
import Derived.Deep.CutRange
import Derived.Deep.RegionHeld3
namespace Go.Proofs.YtaefnkaenhmekaaDoor
open Go.RowKit
theorem ownsG.setCell {w : World} {base g cap n : Nat} {xs : List Value} (h : ownsG w base (.slice (some ⟨g, 0, none⟩) n cap) n xs) (j : Nat) (v : Value) : ownsG (w.setCell ⟨g, j, none⟩ v) base (.slice (some ⟨g, 0, none⟩) n cap) n (xs.set j v) := by
  obtain ⟨hxl, g', cap', cur, fz, hv, hb, hg, hf, hn, hm, hs, ht⟩ := h
  injection hv with h1 h2 h3
  injection h1 with h1
  injection h1 with h1
  subst h1 h3
  refine ⟨by rw [List.length_set]; exact hxl, g, cap, _, fz, rfl, hb, heap_setCell_any w g j cur 5 fz v hg, ?_, hn, hm, by rw [Array.size_setIfInBounds]; exact hs, ?_⟩
  · rw [Array.size_setIfInBounds]; exact hf
  · rw [Array.toList_setIfInBounds, ← ht, List.take_set]
theorem ownsG.free {w : World} {base g cap n : Nat} {xs : List Value} (h : ownsG w base (.slice (some ⟨g, 0, none⟩) n cap) n xs) (j : Nat) (hj : j < n) : w.frozen? ⟨g, j, none⟩ = false := by
  obtain ⟨hxl, g', cap', cur, fz, hv, hb, hg, hf, hn, hm, hs, ht⟩ := h
  injection hv with h1 h2 h3
  injection h1 with h1
  injection h1 with h1
  subst h1 h3
  exact frozen_of_marks hg hf (by omega)
theorem rem_len (at_ : Int) (n : Nat) (h : 0 < n) : ∃ i : Nat, (IntKind.u64.wrap at_).tmod (n : Int) = (i : Int) ∧ i < n := by
  have h0 : 0 ≤ IntKind.u64.wrap at_ := by simp [IntKind.wrap, IntKind.bits, IntKind.signed]; omega
  generalize IntKind.u64.wrap at_ = x at *
  have e := Int.tmod_eq_emod_of_nonneg (a := x) (b := (n : Int)) h0
  have h1 := Int.emod_nonneg x (b := (n : Int)) (by omega)
  have h2 := Int.emod_lt_of_pos x (b := (n : Int)) (by omega)
  exact ⟨(x % (n : Int)).toNat, by rw [e]; omega, by omega⟩
theorem xor_one (x : UInt8) : x ^^^ 1 ≠ x := by
  intro h
  have h2 : (x ^^^ 1).toNat = x.toNat := by rw [h]
  have h3 : ∀ n : Fin 256, n.val ^^^ 1 ≠ n.val := by decide +kernel
  rw [UInt8.toNat_xor] at h2
  exact h3 ⟨x.toNat, x.toNat_lt⟩ h2
/-- a text, one byte of it changed -/
def turnS (s : ByteArray) (i : Nat) (x : UInt8) : ByteArray := ⟨(s.data.toList.set i x).toArray⟩
theorem turnS_size (s : ByteArray) (i : Nat) (x : UInt8) : (turnS s i x).size = s.size := by unfold turnS; rw [list_size, List.length_set, text_len]
theorem turnS_ne (s : ByteArray) (i : Nat) (x : UInt8) (h : i < s.data.toList.length) (hx : x ≠ s.data.toList[i]) : s ≠ turnS s i x := by
  intro e
  have h2 : s.data.toList = s.data.toList.set i x := congrArg (fun t : ByteArray => t.data.toList) e
  have h3 : s.data.toList[i]? = (s.data.toList.set i x)[i]? := by rw [← h2]
  rw [List.getElem?_eq_getElem h, List.getElem?_set_self h] at h3
  exact hx (Option.some.inj h3).symm
theorem slice_head (W : World) (s : ByteArray) (n : Nat) (h : n + 32 = s.size) : (Instr.slice 9 (.string s) none (some (.int .i64 (n : Int))) none).run Tryd.prog W = .ok (.string (headS s)) W := by
  rw [run_slice_string_to_if _ _ _ _ _ Tryd.underlying9, if_pos ⟨by omega, by omega⟩, Int.toNat_natCast, show n = s.size - 32 from by omega]; rfl
theorem slice_tail (W : World) (s : ByteArray) (n : Nat) (h : n + 32 = s.size) : (Instr.slice 9 (.string s) (some (.int .i64 (n : Int))) none none).run Tryd.prog W = .ok (.string (tailS s)) W := by
  rw [run_slice_string_from_if _ _ _ _ _ Tryd.underlying9, if_pos ⟨by omega, by omega⟩, Int.toNat_natCast, show n = s.size - 32 from by omega]; rfl
theorem openE_two (k s : ByteArray) : openE k s = 20 ∨ (openE k s = 0 ∧ 32 ≤ s.size ∧ tagS k (headS s) = tailS s) := by
  unfold openE checkE
  by_cases h : s.size < 32
  · rw [if_pos h]; exact .inl rfl
  · rw [if_neg h]
    by_cases h2 : tagS k (headS s) = tailS s
    · rw [if_pos h2]; exact .inr ⟨rfl, by omega, h2⟩
    · rw [if_neg h2]; exact .inl rfl
set_option maxRecDepth 100000 in
set_option maxHeartbeats 3200000 in
theorem turns_any (k m : ByteArray) (at_ : Int) (hk : k.size ≤ 140737488351232) (hm : m.size ≤ 140737488351232) (w : World) (hTab : Tab w) (h0 : 0 < w.heap.size) :
    Calls Tryd.prog 7 #[.string k, .string m, .int .i64 at_] w fun e w' => e = .returned (.bool true) ∧ Below w.heap.size w w' := by
  have HT : Hid (Tab w) := hTab
  have c0 := works_any w hTab h0
  have c1 := fun W hT h0 => seal_any k m (by omega) (by omega) W hT h0
  have hs : (m ++ tagS k m).size = m.size + 32 := by rw [join_size, tagS_size]
  generalize m ++ tagS k m = s at *
  obtain ⟨i, hi, hil⟩ := rem_len at_ s.size (by omega)
  have il : i < s.data.toList.length := by rw [text_len]; exact hil
  obtain ⟨x, hx⟩ : ∃ x, x = s.data.toList[i] := ⟨_, rfl⟩
  have hx1 : bits .xor .u8 (x.toNat : Int) 1 = ((x ^^^ 1).toNat : Int) := xor8 x 1
  have hne : s ≠ turnS s i (x ^^^ 1) := turnS_ne s i _ il (by rw [← hx]; exact xor_one x)
  have ht : (turnS s i (x ^^^ 1)).size = s.size := turnS_size _ _ _
  have hback : Hid (∀ W1 base g cap, ownsG W1 base (.slice (some ⟨g, 0, none⟩) s.size cap) s.size (s.data.toList.map encB) →
      W1.cell? ⟨g, i, none⟩ = some (.int .u8 (x.toNat : Int)) ∧ W1.frozen? ⟨g, i, none⟩ = false ∧
      (convert 32 9 (.slice (some ⟨g, 0, none⟩) s.size cap)).run Tryd.prog (W1.setCell ⟨g, i, none⟩ (.int .u8 ((x ^^^ 1).toNat : Int))) = .ok (.string (turnS s i (x ^^^ 1))) (W1.setCell ⟨g, i, none⟩ (.int .u8 ((x ^^^ 1).toNat : Int)))) := fun W1 base g cap ho => by
    refine ⟨by rw [ho.cell i hil, List.getElem?_map, List.getElem?_eq_getElem il, hx]; rfl, ho.free i hil, ?_⟩
    have ho2 := ho.setCell i (.int .u8 ((x ^^^ 1).toNat : Int))
    have h := run_convert_bytes_back (P := Tryd.prog) (W1.setCell ⟨g, i, none⟩ (.int .u8 ((x ^^^ 1).toNat : Int))) 32 9 5 ⟨g, 0, none⟩ cap (s.data.toList.set i (x ^^^ 1)) Tryd.underlying32 Tryd.underlying5 Tryd.underlying9 (fun j hj => by
      rw [List.length_set, text_len] at hj
      rw [addr_add, ho2.cell j hj, show Value.int .u8 ((x ^^^ 1).toNat : Int) = encB (x ^^^ 1) from rfl, ← List.map_set, List.getElem?_map, List.getElem?_eq_getElem (by rw [List.length_set, text_len]; exact hj)]; rfl)
    rw [List.length_set, text_len] at h
    exact h
  have hconv := fun W => conv_own W s (by omega)
  generalize turnS s i (x ^^^ 1) = t at *
  obtain ⟨C, hC⟩ : ∃ C, C = s.extract 0 i := ⟨_, rfl⟩
  have hCs : C.size = i := by rw [hC, ← text_len, take_text, List.length_take, text_len]; omega
  have scut : ∀ W : World, (Instr.slice 9 (.string s) none (some (.int .i64 (i : Int))) none).run Tryd.prog W = .ok (.string C) W := fun W => by
    rw [run_slice_string_to_if _ _ _ _ _ Tryd.underlying9, if_pos ⟨by omega, by omega⟩, Int.toNat_natCast, hC]
  have cE1 : ∀ W, Calls Tryd.prog 11 #[.string s, .string t] W fun e w' => e = .returned (.bool false) ∧ Below W.heap.size W w' := fun W => by
    have := equal_any s t (by omega) (by omega) W
    rwa [decide_eq_false hne] at this
  have cE2 : ∀ W, Calls Tryd.prog 11 #[.string s, .string s] W fun e w' => e = .returned (.bool true) ∧ Below W.heap.size W w' := fun W => by
    have := equal_any s s (by omega) (by omega) W
    rwa [decide_eq_true rfl] at this
  have cO := fun W hT h0 => open_any k t (by omega) (by omega) W hT h0
  have cP := fun W hT h0 => open_any k C (by omega) (by omega) W hT h0
  have cT : ∀ W, Tab W → 0 < W.heap.size → Calls Tryd.prog 9 #[.string k, .string (headS t)] W fun e w' => e = .returned (.string (tagS k (headS t))) ∧ Below W.heap.size W w' := fun W hT h0 => tag_any k (headS t) (by omega) (by have := headS_size t; omega) W hT h0
  have cU : ∀ W, Tab W → 0 < W.heap.size → Calls Tryd.prog 9 #[.string k, .string (headS C)] W fun e w' => e = .returned (.string (tagS k (headS C))) ∧ Below W.heap.size W w' := fun W hT h0 => tag_any k (headS C) (by omega) (by have := headS_size C; omega) W hT h0
  have hEt := openE_two k t
  have hEC := openE_two k C
  have sh := fun W => slice_head W t m.size (by omega)
  have st := fun W => slice_tail W t m.size (by omega)
  have SH2 : Hid (32 ≤ i → ∀ W : World, (Instr.slice 9 (.string C) none (some (.int .i64 ((i - 32 : Nat) : Int))) none).run Tryd.prog W = .ok (.string (headS C)) W) := fun h W => slice_head W C (i - 32) (by omega)
  have ST2 : Hid (32 ≤ i → ∀ W : World, (Instr.slice 9 (.string C) (some (.int .i64 ((i - 32 : Nat) : Int))) none none).run Tryd.prog W = .ok (.string (tailS C)) W) := fun h W => slice_tail W C (i - 32) (by omega)
  have h20 : Hid (i < 32 → openE k C = 20) := fun h => by unfold openE; rw [if_pos (by omega)]
  rw [hCs] at hEC
  generalize openE k t = E at *
  generalize openE k C = F at *
  generalize openA k t = A1 at *
  generalize openA k C = A2 at *
  generalize tagS k (headS t) = T1 at *
  generalize tagS k (headS C) = T2 at *
  generalize headS t = P1 at *
  generalize tailS t = P2 at *
  generalize headS C = Q1 at *
  generalize tailS C = Q2 at *
  have j1 : (s.size : Int) = (m.size : Int) + 32 := by omega
  have j2 : (m.size : Int) ≤ 140737488351232 := by omega
  have j3 : (t.size : Int) - 32 = (m.size : Int) := by omega
  have j8 : (m.size : Int) ≤ (t.size : Int) := by omega
  have j9 : (t.size : Int) ≤ 140737488355000 := by omega
  have j4 : (C.size : Int) = (i : Int) := by omega
  have j5 : (i : Int) < (m.size : Int) + 32 := by omega
  have j6 : (0 : Int) ≤ (i : Int) := by omega
  rw [j1] at hi
  generalize (x ^^^ 1).toNat = y at *
  have j7 : (0 : Int) ≤ (m.size : Int) := by omega
  have HEt : Hid (E = 20 ∨ (E = 0 ∧ T1 = P2)) := hEt.imp id (fun h => ⟨h.1, h.2.2⟩)
  have HEC : Hid (F = 20 ∨ (F = 0 ∧ T2 = Q2)) := hEC.imp id (fun h => ⟨h.1, h.2.2⟩)
  clear hTab hC hne hx il hs ht hCs hil hEt hEC
  go_enter Tryd.func7, Tryd.ntmps7
  go_wp2_with fail
  refine c0.mono ?_
  rintro e w1 ⟨rfl, b1⟩
  have z1 := b1.size
  clear c0
  go_wp2_with fail
  refine (c1 w1 (HT.out.below b1 h0) (by omega)).mono ?_
  rintro e w2 ⟨rfl, hb2⟩
  have b2 : Below w.heap.size w w2 := b1.trans (hb2.mono z1)
  have z2 := b2.size
  clear c1 hb2 b1 z1
  obtain ⟨cap, W1, hcv, hown, hbel⟩ := hconv w2
  obtain ⟨q1, q2, q3⟩ := hback.out _ _ _ _ hown
  have b3 : Below w.heap.size w (W1.setCell ⟨w2.heap.size, i, none⟩ (.int .u8 (y : Int))) := (b2.trans (hbel.mono z2)).setCell (by exact z2) _
  have z3 := b3.size
  have B3 : Hid (Below w.heap.size w (W1.setCell ⟨w2.heap.size, i, none⟩ (.int .u8 (y : Int)))) := b3
  have e1 := cE1 (W1.setCell ⟨w2.heap.size, i, none⟩ (.int .u8 (y : Int)))
  clear hback hown hbel hconv b2 b3 cE1
  go_wp2_with fail
  refine e1.mono ?_
  rintro e w3 ⟨rfl, hb3⟩
  have b4 : Below w.heap.size w w3 := B3.out.trans (hb3.mono z3)
  have z4 := b4.size
  clear hb3 B3 z3 e1 hcv q1 q2 q3
  go_wp2_with fail
  refine (cE2 w3).mono ?_
  rintro e w4 ⟨rfl, hb4⟩
  have b5 : Below w.heap.size w w4 := b4.trans (hb4.mono z4)
  have z5 := b5.size
  clear hb4 b4 z4 cE2
  go_wp2_with fail
  refine (cO w4 (HT.out.below b5 h0) (by omega)).mono ?_
  rintro e w5 ⟨rfl, hb5⟩
  have b6 : Below w.heap.size w w5 := b5.trans (hb5.mono z5)
  have z6 := b6.size
  clear hb5 b5 z5 cO
  have CT : Hid (∀ W, Below w.heap.size w W → Calls Tryd.prog 9 #[.string k, .string P1] W fun e w' => e = .returned (.string T1) ∧ Below w.heap.size w w') := fun W hb =>
    (cT W (HT.out.below hb h0) (by have := hb.size; omega)).mono fun e w' ⟨h1, h2⟩ => ⟨h1, hb.trans (h2.mono hb.size)⟩
  clear cT
  go_upto_region 13 with fail
  go_cut [72] from 56 to 72 (fun c wx => c = .bool false ∧ Below w.heap.size w wx)
  case first =>
    rcases HEt.out with rfl | ⟨rfl, rfl⟩
    · go_quiet (fail)
      go_wp2_with fail
      go_meet
      exact ⟨rfl, ⟨b6.os, b6.tape, b6.output, b6.size, b6.block⟩⟩
    · have jw : IntKind.i64.wrap (m.size : Int) = (m.size : Int) := by simp [IntKind.wrap, IntKind.bits, IntKind.signed]; omega
      go_region_held3 (fun W => Below w.heap.size w W) (first | assumption | exact b6.drew) (first | (go_at_call 9; refine (CT.out _ ?_).mono ?_; assumption; rintro e w6 ⟨rfl, hb6⟩))
      all_goals (go_wp2_with fail; go_meet; exact ⟨rfl, by assumption⟩)
  case rest =>
  obtain ⟨rfl, b7⟩ := hcut
  have z7 := b7.size
  clear CT HEt b6 z6 sh st j3 j8 j9
  go_wp2_with fail
  refine (cP wc (HT.out.below b7 h0) (by omega)).mono ?_
  rintro e w7 ⟨rfl, hb7⟩
  have b8 : Below w.heap.size w w7 := b7.trans (hb7.mono z7)
  have z8 := b8.size
  clear hb7 b7 z7 cP
  by_cases h32 : i < 32
  · obtain rfl := h20.out h32
    have i1 : (i : Int) < 32 := by omega
    have B8 : Hid (Below w.heap.size w w7) := b8
    clear h20 HEC SH2 ST2 cU b8
    go_wp2
    go_ret
    exact ⟨rfl, B8⟩
  · obtain ⟨r, hr⟩ : ∃ r, r = i - 32 := ⟨_, rfl⟩
    have i1 : ¬ (i : Int) < 32 := by omega
    have i2 : (i : Int) - 32 = (r : Int) := by omega
    have i3 : (0 : Int) ≤ (r : Int) := by omega
    have i4 : (r : Int) ≤ (i : Int) := by omega
    have sh := SH2.out (by omega)
    have st := ST2.out (by omega)
    rw [← hr] at sh st
    have CU : Hid (∀ W, Below w.heap.size w W → Calls Tryd.prog 9 #[.string k, .string Q1] W fun e w' => e = .returned (.string T2) ∧ Below w.heap.size w w') := fun W hb =>
      (cU W (HT.out.below hb h0) (by have := hb.size; omega)).mono fun e w' ⟨h1, h2⟩ => ⟨h1, hb.trans (h2.mono hb.size)⟩
    clear h20 SH2 ST2 cU hr
    rcases HEC.out with rfl | ⟨rfl, rfl⟩
    · have B8 : Hid (Below w.heap.size w w7) := b8
      clear b8 HEC CU
      go_wp2
      go_quiet (fail)
      go_wp2
      go_ret
      exact ⟨rfl, ⟨B8.out.os, B8.out.tape, B8.out.output, B8.out.size, B8.out.block⟩⟩
    · clear HEC
      have jw : IntKind.i64.wrap (r : Int) = (r : Int) := by simp [IntKind.wrap, IntKind.bits, IntKind.signed]; omega
      go_wp2
      go_region_held3 (fun W => Below w.heap.size w W) (first | assumption | exact b8.drew) (first | (go_at_call 9; refine (CU.out _ ?_).mono ?_; assumption; rintro e w8 ⟨rfl, hb8⟩))
      all_goals
        have B9 : Hid (Below w.heap.size w w8) := by assumption
        go_wp2
        go_ret
        exact ⟨rfl, B9⟩
end Go.Proofs.YtaefnkaenhmekaaDoor
