/- The document's reader: list. | The document's instr. -/
import Derived.Test.YtmbgcpmapaedcaaGreatDoorRjW
import Derived.Test.YtmbgcpmapaedcaaGreatDoorMg21
import Derived.Test.YtmbgcpmapaedcaaGreatDoorMg24
namespace Go.Proofs.YtmbgcpmapaedcaaGreatDoor
open Go.RowKit
open Wi (It itA ItsAt)
theorem nR_pos (m : Int) (s : Rs) (hm : 0 ≤ m) : 0 ≤ (nR m s).1 ∧ (nR m s).1 ≤ m := by
  obtain ⟨q, b⟩ := s
  cases b with
  | true => exact ⟨Int.le_refl 0, hm⟩
  | false =>
    show 0 ≤ (nH m q).1 ∧ (nH m q).1 ≤ m
    cases q with
    | nil => exact ⟨Int.le_refl 0, hm⟩
    | cons x r =>
      rw [nH]
      by_cases h : numOk m x = true
      · rw [if_pos h]
        unfold numOk at h
        simp only [Bool.and_eq_true, decide_eq_true_eq] at h
        exact h.2
      · rw [if_neg h]
        exact ⟨Int.le_refl 0, hm⟩
theorem lN_len : ∀ (n : Nat) (s : Rs), (lN n s).1.length ≤ n
  | 0, _ => Nat.le_refl 0
  | n + 1, s => by
    rw [lN]
    split
    · exact Nat.zero_le _
    · rw [List.length_cons]
      have := lN_len n (nR 1024 s).2
      omega
theorem RDr.bad {B : Nat} {w : World} {R : Nat} {l : List It} {s : Rs} (h : RDr B w R l s) : w.cell? ⟨R, 2, none⟩ = some (.bool s.bad) := by
  obtain ⟨-, -, a, b, off, cap, k, -, -, h0, -⟩ := h
  exact (Lib.cell_of_heap (j := 2) h0).trans rfl
set_option maxRecDepth 100000 in
set_option maxHeartbeats 1600000 in
theorem rlist_any (B R : Nat) (l : List It) (s : Rs) (w : World) (hr : RDr B w R l s) (hl : l.length ≤ 1000) :
    Calls Tryz.prog 34 #[.pointer (some ⟨R, 0, none⟩)] w fun e w' => ∃ v, e = .returned v ∧ w'.ownsRow w.heap.size 3 1 v (lR s).1.length (intC (lR s).1) ∧ RDr B w' R l (lR s).2 ∧ But R w w' := by
  obtain ⟨i0, hi, hz0, hz1, hz2⟩ := info_parts info3
  have c1 := hide (rnum_any B R l s 1024 w hr hl (by omega))
  have hp := nR_pos 1024 s (by omega)
  obtain ⟨M, hM⟩ : ∃ M, M = (nR 1024 s).1.toNat := ⟨_, rfl⟩
  have hMi : (nR 1024 s).1 = (M : Int) := by omega
  have hM2 : M ≤ 1024 := by omega
  obtain ⟨q, hq⟩ : ∃ q, q = (nR 1024 s).2 := ⟨_, rfl⟩
  have HP : Hid (lR s = lN M q) := by show _ = _; rw [hM, hq]; rfl
  rw [hMi, ← hq] at c1
  rw [HP.out]
  have hRw : R < w.heap.size := hr.lt
  have hBw : B ≤ w.heap.size := hr.2.1
  have c2 : Hid (∀ k W, RDr B W R l (lN k q).2 → Calls Tryz.prog 33 #[.pointer (some ⟨R, 0, none⟩), .int .i64 1024] W fun e w' => e = .returned (.int .i64 (nR 1024 (lN k q).2).1) ∧ RDr B w' R l (nR 1024 (lN k q).2).2 ∧ But R W w') := fun k W h => rnum_any B R l _ 1024 W h hl (by omega)
  clear hr hM hMi hq hp HP
  go_enter Tryz.func34, Tryz.ntmps34
  go_wp2_with fail
  refine c1.out.mono ?_
  rintro e w1 ⟨rfl, hr1, hb1⟩
  have HR1 := hide hr1
  have HB1 := hide hb1
  have z1 := hb1.size
  clear hr1 hb1
  go_wp2_with fail
  go_loopw [3, 5] (fun b i wr => ∃ (k : Nat) (b' : Value), k ≤ M ∧ i = .int .i64 (k : Int) ∧ b' = b ∧ Hid (wr.ownsRow w.heap.size 3 1 b' (lN k q).1.length (intC (lN k q).1) ∧ RDr B wr R l (lN k q).2 ∧ But R w wr)) (fun _ i _ => M - (intOf i).toNat)
  case atStart => exact ⟨0, _, by omega, rfl, rfl, World.ownsRow_nil _ _ _ _, HR1.out, HB1.out⟩
  case round =>
    obtain ⟨k, b, hk, rfl, rfl, hh⟩ := hrel
    have OO := hide hh.out.1
    have RR := hide hh.out.2.1
    have BB := hide hh.out.2.2
    have zr := BB.out.size
    have k0 : (0 : Int) ≤ (k : Int) := by omega
    have cb := RR.out.bad
    clear hh HR1 HB1
    by_cases hlt : k < M
    · have j1 : (k : Int) < (M : Int) := by omega
      cases hbad : (lN k q).2.bad with
      | true =>
        rw [hbad] at cb
        have HS : Hid (lN M q = lN k q) := lN_stop k M q (by omega) hbad
        clear hbad
        go_wp2
        go_ret
        exact ⟨_, rfl, by rw [HS.out]; exact OO.out, by rw [HS.out]; exact RR.out, BB.out⟩
      | false =>
        rw [hbad] at cb
        have HN := hide (lN_next k q hbad)
        have C2 := hide (c2.out k wr RR.out)
        have hln := lN_len k q
        obtain ⟨x, hx⟩ : ∃ x, x = (nR 1024 (lN k q).2).1 := ⟨_, rfl⟩
        rw [← hx] at C2 HN
        clear hx hbad
        have hob : ∀ r, b.ownBlock = some r → w.heap.size ≤ r := fun r hr => (OO.out.lt r hr).1
        have hbR : Hid (b.ownBlock ≠ some R) := fun e => by have := hob R e; omega
        generalize (lN k q).1 = L at *
        obtain ⟨n, hn⟩ : ∃ n, n = L.length := ⟨_, rfl⟩
        rw [← hn] at OO hln
        have HL := hide hn
        clear hn
        go_wp2_with fail
        refine C2.out.mono ?_
        rintro e w2 ⟨rfl, hr2, hb2⟩
        have O2 : Hid (w2.ownsRow w.heap.size 3 1 b n (intC L)) := OO.out.kept (row := some R) hb2 (.inr hbR.out)
        have R2 := hide hr2
        have B2 := hide (But.trans BB.out hb2)
        have z2 := hb2.size
        clear hr2 hb2 cb C2
        go_wp2_with (at_builtin; go_must (refine wpList_append_lies _ (by rfl) _ _ _ (by rfl) w.heap.size 3 i0 _ 1 8 Tryz.underlying22 hi hz0 hz1 hz2 rfl (by omega) b n _ (by rfl) (O2.out.alloc _) ⟨w2.heap.size, 0, none⟩ 1 1 [.int .i64 x] (by rfl) (by rfl) (World.news_of_block (cs := #[.int .i64 x]) (t := 3) (fr := (0, 0)) (heap_alloc_new w2 _)) (by simp [Value.oneCell']) (by omega) (by unfold maxLen; omega) (by omega) (by simp; omega) (w2.heap.size + 1) (by simp) ?_; intro gg cap' w3 hown3 hgrow hat hlt3; have B3 := hide (((Below.refl B w2).alloc (by omega) _).grown hgrow (by simp; omega) (fun r hr => Nat.le_trans hBw (hob r hr))); have B4 := hide (((Below.refl w.heap.size w2).alloc (by omega) _).grown hgrow (by simp; omega) hob)))
        go_roundw
        case rel =>
          refine ⟨k + 1, _, by omega, by go_num, rfl, ?_, ?_, ?_⟩
          · rw [HN.out]; show w3.ownsRow _ _ _ _ (L ++ _).length (intC (_ ++ _)); rw [intC_append, List.length_append, ← HL.out]; exact hown3
          · rw [HN.out]; exact R2.out.on B3.out
          · exact ⟨B4.out.os.trans B2.out.os, B4.out.tape.trans B2.out.tape, B4.out.output.trans B2.out.output, Nat.le_trans B2.out.size B4.out.size, fun i hi hne => (B4.out.block i hi).trans (B2.out.block i hi hne)⟩
        case measure => simp [intOf]; omega
    · obtain rfl : k = M := by omega
      clear cb
      go_wp2
      go_ret
      exact ⟨_, rfl, OO.out, RR.out, BB.out⟩
end Go.Proofs.YtmbgcpmapaedcaaGreatDoor
namespace Go.Proofs.YtmbgcpmapaedcaaGreatDoor
open Go.RowKit
open Wi (numV)
set_option maxRecDepth 100000 in
set_option maxHeartbeats 800000 in
theorem rinstr_any (s : ByteArray) (q : List UInt8) (hq : s.data.toList = q) (hs : q.length = 11) (w : World) :
    Calls Tryz.prog 35 #[.string s] w fun e w' => e = .returned (inA (insV q)) ∧ Below w.heap.size w w' := by
  have hz : s.size = q.length := by rw [← hq, Wi.text_len]
  obtain ⟨d0, d1, d2, d3, d4, r, rfl⟩ : ∃ d0 d1 d2 d3 d4 r, q = d0 :: d1 :: d2 :: d3 :: d4 :: r := by
    match q, hs with
    | d0 :: d1 :: d2 :: d3 :: d4 :: r, _ => exact ⟨d0, d1, d2, d3, d4, r, rfl⟩
  have hr : r.length = 6 := by simpa using hs
  have hI : ∀ (k : Nat) (c : UInt8), (d0 :: d1 :: d2 :: d3 :: d4 :: r)[k]? = some c → ∀ W, (Instr.index 9 (.string s) (.int .i64 (k : Int))).run Tryz.prog W = .ok (.int .u8 (c.toNat : Int)) W := fun k c h => Wi.run_idx s k c (by rw [hq]; exact h)
  have x0 : ∀ W, (Instr.index 9 (.string s) (.int .i64 0)).run Tryz.prog W = .ok (.int .u8 (d0.toNat : Int)) W := hI 0 d0 rfl
  have x1 : ∀ W, (Instr.index 9 (.string s) (.int .i64 1)).run Tryz.prog W = .ok (.int .u8 (d1.toNat : Int)) W := hI 1 d1 rfl
  have x2 : ∀ W, (Instr.index 9 (.string s) (.int .i64 2)).run Tryz.prog W = .ok (.int .u8 (d2.toNat : Int)) W := hI 2 d2 rfl
  have x3 : ∀ W, (Instr.index 9 (.string s) (.int .i64 3)).run Tryz.prog W = .ok (.int .u8 (d3.toNat : Int)) W := hI 3 d3 rfl
  have x4 : ∀ W, (Instr.index 9 (.string s) (.int .i64 4)).run Tryz.prog W = .ok (.int .u8 (d4.toNat : Int)) W := hI 4 d4 rfl
  have HX : Hid (∀ (k : Nat) (c : UInt8), r[k]? = some c → ∀ W, (Instr.index 9 (.string s) (.int .i64 ((5 + k : Nat) : Int))).run Tryz.prog W = .ok (.int .u8 (c.toNat : Int)) W) := fun k c h => hI (5 + k) c (by rw [show 5 + k = k + 1 + 1 + 1 + 1 + 1 by omega]; exact h)
  have HR : Hid (inA (insV (d0 :: d1 :: d2 :: d3 :: d4 :: r)) = .agg #[.int .i64 (d0.toNat : Int), .int .i64 ((d1.toNat : Int) * 256 + (d2.toNat : Int)), .int .i64 ((d3.toNat : Int) * 256 + (d4.toNat : Int)), .int .i64 (sg48 (numV r 0))]) := by
    show _ = _
    unfold inA insV
    have e : (List.take 6 r) = r := List.take_of_length_le (by omega)
    simp [numV, e]
  have b0 := d0.toNat_lt
  have b1 := d1.toNat_lt
  have b2 := d2.toNat_lt
  have b3 := d3.toNat_lt
  have b4 := d4.toNat_lt
  rw [HR.out]
  generalize d0.toNat = m0 at *
  generalize d1.toNat = m1 at *
  generalize d2.toNat = m2 at *
  generalize d3.toNat = m3 at *
  generalize d4.toNat = m4 at *
  have HRL := hide hr
  have HT : Hid (r.take 6 = r) := List.take_of_length_le (by rw [HRL.out]; exact Nat.le_refl _)
  obtain ⟨N, hN⟩ : ∃ N, N = numV r 0 := ⟨_, rfl⟩
  have hNl : (N : Int) < 281474976710656 := by
    have := num_lt r 6 (by omega)
    rw [HT.out, ← hN] at this
    omega
  have HN6 : Hid (numV (r.take 6) 0 = N) := by show _ = _; rw [HT.out, hN]
  rw [← hN]
  obtain ⟨Z, hZ⟩ : ∃ Z, Z = sg48 N := ⟨_, rfl⟩
  have HZ : Hid (Z = if (N : Int) < 140737488355328 then (N : Int) else (N : Int) - 281474976710656) := by
    show _ = _
    rw [hZ]
    unfold sg48
    split <;> split <;> omega
  rw [← hZ]
  clear hI HR hq hz hs hr hN hZ HT
  go_enter Tryz.func35, Tryz.ntmps35
  go_wp2_with fail
  go_loopw [3, 4] (fun n i wr => ∃ k : Nat, k ≤ 6 ∧ i = .int .i64 ((5 + k : Nat) : Int) ∧ n = .int .u64 ((numV (r.take k) 0 : Nat) : Int) ∧ Hid (wr = w.alloc (.cells #[.int .i64 0, .int .i64 0, .int .i64 0, .int .i64 0] 41))) (fun _ i _ => 11 - (intOf i).toNat)
  case atStart => exact ⟨0, by omega, rfl, rfl, rfl⟩
  case round =>
    obtain ⟨k, hk, rfl, rfl, hw⟩ := hrel
    obtain rfl := hw.out
    by_cases hlt : k < 6
    · obtain ⟨c, hc⟩ : ∃ c, r[k]? = some c := ⟨_, List.getElem?_eq_getElem (by rw [HRL.out]; exact hlt)⟩
      have x5 := HX.out k c hc
      have hkl : k < r.length := by rw [HRL.out]; exact hlt
      have hcc : r[k] = c := by rw [List.getElem?_eq_getElem hkl] at hc; exact Option.some.inj hc
      have hb := num_lt r k (by omega)
      have HV : Hid (((numV (r.take (k + 1)) 0 : Nat) : Int) = ((numV (r.take k) 0 : Nat) : Int) * 256 + (c.toNat : Int)) := by
        show _ = _
        rw [Wi.numV_take r k hkl, hcc]; simp
      have hc9 := c.toNat_lt
      generalize c.toNat = cc at *
      generalize numV (r.take k) 0 = m at *
      obtain ⟨z, hz⟩ : ∃ z, z = 5 + k := ⟨_, rfl⟩
      rw [← hz] at x5 ⊢
      have j1 : (z : Int) < 11 := by omega
      have j0 : (0 : Int) ≤ (z : Int) := by omega
      have HZ := hide hz
      have hm1 : ((m : Nat) : Int) < 281474976710656 := by omega
      clear hz hc hcc hw
      go_wp2
      go_roundw
      case rel => exact ⟨k + 1, by omega, by rw [HZ.out]; go_num, by rw [HV.out], trivial⟩
      case measure => simp [intOf]; omega
    · obtain rfl : k = 6 := by omega
      rw [HN6.out]
      clear hlt HX HN6
      have g0 : IntKind.i64.wrap (m0 : Int) = (m0 : Int) := by rw [IntKind.wrap_i64]; omega
      have e1 : IntKind.i64.wrap (m1 : Int) = (m1 : Int) := by rw [IntKind.wrap_i64]; omega
      have e2 : IntKind.i64.wrap (m2 : Int) = (m2 : Int) := by rw [IntKind.wrap_i64]; omega
      have e3 : IntKind.i64.wrap (m3 : Int) = (m3 : Int) := by rw [IntKind.wrap_i64]; omega
      have e4 : IntKind.i64.wrap (m4 : Int) = (m4 : Int) := by rw [IntKind.wrap_i64]; omega
      have t1 : IntKind.i64.wrap ((m1 : Int) * 256) = (m1 : Int) * 256 := by rw [IntKind.wrap_i64]; omega
      have t3 : IntKind.i64.wrap ((m3 : Int) * 256) = (m3 : Int) * 256 := by rw [IntKind.wrap_i64]; omega
      have hN0 : (0 : Int) ≤ (N : Int) := by omega
      generalize (N : Int) = NI at *
      have w1 : IntKind.i64.wrap ((m1 : Int) * 256 + (m2 : Int)) = (m1 : Int) * 256 + (m2 : Int) := by rw [IntKind.wrap_i64]; omega
      have w2 : IntKind.i64.wrap ((m3 : Int) * 256 + (m4 : Int)) = (m3 : Int) * 256 + (m4 : Int) := by rw [IntKind.wrap_i64]; omega
      by_cases hm : NI < 140737488355328
      · have HE : Hid (Z = NI) := by show _ = _; rw [HZ.out, if_pos hm]
        have e5 : IntKind.i64.wrap NI = Z := by rw [HE.out, IntKind.wrap_i64]; omega
        clear HZ hNl b0 b1 b2 b3 b4 HE
        go_wp2_with fail
        refine region_L (S := fun _ => True) (L := 22) (by kernel_rfl) ?_
        refine tkL 0 (.string s) trivial ?_
        try simp only [Act.put, List.setIfInBounds_toArray, List.set_cons_zero, List.set_cons_succ]
        refine tkL 1 (.int .u8 (m0 : Int)) trivial ?_
        try simp only [Act.put, List.setIfInBounds_toArray, List.set_cons_zero, List.set_cons_succ]
        refine tkL 2 (.int .i64 (m0 : Int)) trivial ?_
        try simp only [Act.put, List.setIfInBounds_toArray, List.set_cons_zero, List.set_cons_succ]
        refine tkL 3 (.string s) trivial ?_
        try simp only [Act.put, List.setIfInBounds_toArray, List.set_cons_zero, List.set_cons_succ]
        refine tkL 4 (.int .u8 (m1 : Int)) trivial ?_
        try simp only [Act.put, List.setIfInBounds_toArray, List.set_cons_zero, List.set_cons_succ]
        refine tkL 5 (.int .i64 (m1 : Int)) trivial ?_
        try simp only [Act.put, List.setIfInBounds_toArray, List.set_cons_zero, List.set_cons_succ]
        refine tkL 6 (.int .i64 ((m1 : Int) * 256)) trivial ?_
        try simp only [Act.put, List.setIfInBounds_toArray, List.set_cons_zero, List.set_cons_succ]
        refine tkL 7 (.string s) trivial ?_
        try simp only [Act.put, List.setIfInBounds_toArray, List.set_cons_zero, List.set_cons_succ]
        refine tkL 8 (.int .u8 (m2 : Int)) trivial ?_
        try simp only [Act.put, List.setIfInBounds_toArray, List.set_cons_zero, List.set_cons_succ]
        refine tkL 9 (.int .i64 (m2 : Int)) trivial ?_
        try simp only [Act.put, List.setIfInBounds_toArray, List.set_cons_zero, List.set_cons_succ]
        refine tkL 10 (.int .i64 ((m1 : Int) * 256 + (m2 : Int))) trivial ?_
        try simp only [Act.put, List.setIfInBounds_toArray, List.set_cons_zero, List.set_cons_succ]
        refine tkL 11 (.string s) trivial ?_
        try simp only [Act.put, List.setIfInBounds_toArray, List.set_cons_zero, List.set_cons_succ]
        refine tkL 12 (.int .u8 (m3 : Int)) trivial ?_
        try simp only [Act.put, List.setIfInBounds_toArray, List.set_cons_zero, List.set_cons_succ]
        refine tkL 13 (.int .i64 (m3 : Int)) trivial ?_
        try simp only [Act.put, List.setIfInBounds_toArray, List.set_cons_zero, List.set_cons_succ]
        refine tkL 14 (.int .i64 ((m3 : Int) * 256)) trivial ?_
        try simp only [Act.put, List.setIfInBounds_toArray, List.set_cons_zero, List.set_cons_succ]
        refine tkL 15 (.string s) trivial ?_
        try simp only [Act.put, List.setIfInBounds_toArray, List.set_cons_zero, List.set_cons_succ]
        refine tkL 16 (.int .u8 (m4 : Int)) trivial ?_
        try simp only [Act.put, List.setIfInBounds_toArray, List.set_cons_zero, List.set_cons_succ]
        refine tkL 17 (.int .i64 (m4 : Int)) trivial ?_
        try simp only [Act.put, List.setIfInBounds_toArray, List.set_cons_zero, List.set_cons_succ]
        refine tkL 18 (.int .i64 ((m3 : Int) * 256 + (m4 : Int))) trivial ?_
        try simp only [Act.put, List.setIfInBounds_toArray, List.set_cons_zero, List.set_cons_succ]
        refine tkL 19 (.int .u64 NI) trivial ?_
        try simp only [Act.put, List.setIfInBounds_toArray, List.set_cons_zero, List.set_cons_succ]
        refine tkL 20 (.int .i64 Z) trivial ?_
        try simp only [Act.put, List.setIfInBounds_toArray, List.set_cons_zero, List.set_cons_succ]
        refine tkL 21 (.agg #[.int .i64 (m0 : Int), .int .i64 ((m1 : Int) * 256 + (m2 : Int)), .int .i64 ((m3 : Int) * 256 + (m4 : Int)), .int .i64 Z]) trivial ?_
        try simp only [Act.put, List.setIfInBounds_toArray, List.set_cons_zero, List.set_cons_succ]
        refine rdL 22 (fun K hK => ?_)
        go_simp
        refine hK.out _ _ (fun h => absurd rfl h) ?_
        clear hK K
        try simp only [Act.put, List.setIfInBounds_toArray, List.set_cons_zero, List.set_cons_succ]
        refine doneL ?_
        go_wp2
        refine bodyPost_ret (v := .agg #[.int .i64 (m0 : Int), .int .i64 ((m1 : Int) * 256 + (m2 : Int)), .int .i64 ((m3 : Int) * 256 + (m4 : Int)), .int .i64 Z]) ?_ rfl ⟨rfl, ?_⟩
        · simp [results, Tryz.results35, go_sem]
        · exact ((Below.refl _ _).alloc (Nat.le_refl _) _).drew
      · have HE : Hid (Z = NI - 281474976710656) := by show _ = _; rw [HZ.out, if_neg hm]
        have e5 : IntKind.u64.wrap (NI - 281474976710656) = NI - 281474976710656 + 18446744073709551616 := by rw [IntKind.wrap_u64]; omega
        have e6 : IntKind.i64.wrap (NI - 281474976710656 + 18446744073709551616) = NI - 281474976710656 := by rw [IntKind.wrap_i64]; omega
        obtain ⟨NJ, hJ⟩ : ∃ NJ, NJ = NI - 281474976710656 + 18446744073709551616 := ⟨_, rfl⟩
        rw [← hJ] at e5 e6
        rw [← HE.out] at e6
        clear HZ hNl hJ HE b0 b1 b2 b3 b4
        go_wp2_with fail
        refine region_L (S := fun _ => True) (L := 22) (by kernel_rfl) ?_
        refine tkL 0 (.string s) trivial ?_
        try simp only [Act.put, List.setIfInBounds_toArray, List.set_cons_zero, List.set_cons_succ]
        refine tkL 1 (.int .u8 (m0 : Int)) trivial ?_
        try simp only [Act.put, List.setIfInBounds_toArray, List.set_cons_zero, List.set_cons_succ]
        refine tkL 2 (.int .i64 (m0 : Int)) trivial ?_
        try simp only [Act.put, List.setIfInBounds_toArray, List.set_cons_zero, List.set_cons_succ]
        refine tkL 3 (.string s) trivial ?_
        try simp only [Act.put, List.setIfInBounds_toArray, List.set_cons_zero, List.set_cons_succ]
        refine tkL 4 (.int .u8 (m1 : Int)) trivial ?_
        try simp only [Act.put, List.setIfInBounds_toArray, List.set_cons_zero, List.set_cons_succ]
        refine tkL 5 (.int .i64 (m1 : Int)) trivial ?_
        try simp only [Act.put, List.setIfInBounds_toArray, List.set_cons_zero, List.set_cons_succ]
        refine tkL 6 (.int .i64 ((m1 : Int) * 256)) trivial ?_
        try simp only [Act.put, List.setIfInBounds_toArray, List.set_cons_zero, List.set_cons_succ]
        refine tkL 7 (.string s) trivial ?_
        try simp only [Act.put, List.setIfInBounds_toArray, List.set_cons_zero, List.set_cons_succ]
        refine tkL 8 (.int .u8 (m2 : Int)) trivial ?_
        try simp only [Act.put, List.setIfInBounds_toArray, List.set_cons_zero, List.set_cons_succ]
        refine tkL 9 (.int .i64 (m2 : Int)) trivial ?_
        try simp only [Act.put, List.setIfInBounds_toArray, List.set_cons_zero, List.set_cons_succ]
        refine tkL 10 (.int .i64 ((m1 : Int) * 256 + (m2 : Int))) trivial ?_
        try simp only [Act.put, List.setIfInBounds_toArray, List.set_cons_zero, List.set_cons_succ]
        refine tkL 11 (.string s) trivial ?_
        try simp only [Act.put, List.setIfInBounds_toArray, List.set_cons_zero, List.set_cons_succ]
        refine tkL 12 (.int .u8 (m3 : Int)) trivial ?_
        try simp only [Act.put, List.setIfInBounds_toArray, List.set_cons_zero, List.set_cons_succ]
        refine tkL 13 (.int .i64 (m3 : Int)) trivial ?_
        try simp only [Act.put, List.setIfInBounds_toArray, List.set_cons_zero, List.set_cons_succ]
        refine tkL 14 (.int .i64 ((m3 : Int) * 256)) trivial ?_
        try simp only [Act.put, List.setIfInBounds_toArray, List.set_cons_zero, List.set_cons_succ]
        refine tkL 15 (.string s) trivial ?_
        try simp only [Act.put, List.setIfInBounds_toArray, List.set_cons_zero, List.set_cons_succ]
        refine tkL 16 (.int .u8 (m4 : Int)) trivial ?_
        try simp only [Act.put, List.setIfInBounds_toArray, List.set_cons_zero, List.set_cons_succ]
        refine tkL 17 (.int .i64 (m4 : Int)) trivial ?_
        try simp only [Act.put, List.setIfInBounds_toArray, List.set_cons_zero, List.set_cons_succ]
        refine tkL 18 (.int .i64 ((m3 : Int) * 256 + (m4 : Int))) trivial ?_
        try simp only [Act.put, List.setIfInBounds_toArray, List.set_cons_zero, List.set_cons_succ]
        refine tkL 19 (.int .u64 NJ) trivial ?_
        try simp only [Act.put, List.setIfInBounds_toArray, List.set_cons_zero, List.set_cons_succ]
        refine tkL 20 (.int .i64 Z) trivial ?_
        try simp only [Act.put, List.setIfInBounds_toArray, List.set_cons_zero, List.set_cons_succ]
        refine tkL 21 (.agg #[.int .i64 (m0 : Int), .int .i64 ((m1 : Int) * 256 + (m2 : Int)), .int .i64 ((m3 : Int) * 256 + (m4 : Int)), .int .i64 Z]) trivial ?_
        try simp only [Act.put, List.setIfInBounds_toArray, List.set_cons_zero, List.set_cons_succ]
        refine rdL 22 (fun K hK => ?_)
        go_simp
        refine hK.out _ _ (fun h => absurd rfl h) ?_
        clear hK K
        try simp only [Act.put, List.setIfInBounds_toArray, List.set_cons_zero, List.set_cons_succ]
        refine doneL ?_
        go_wp2
        refine bodyPost_ret (v := .agg #[.int .i64 (m0 : Int), .int .i64 ((m1 : Int) * 256 + (m2 : Int)), .int .i64 ((m3 : Int) * 256 + (m4 : Int)), .int .i64 Z]) ?_ rfl ⟨rfl, ?_⟩
        · simp [results, Tryz.results35, go_sem]
        · exact ((Below.refl _ _).alloc (Nat.le_refl _) _).drew
end Go.Proofs.YtmbgcpmapaedcaaGreatDoor
