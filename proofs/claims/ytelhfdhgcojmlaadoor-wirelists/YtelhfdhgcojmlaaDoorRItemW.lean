/- The contract of the document's item. -/
import Derived.Test.YtelhfdhgcojmlaaDoorDecW
namespace Go.Proofs.YtelhfdhgcojmlaaDoor
open Go.RowKit
/-- what the document's item answers at a place -/
def riOut (at' : Nat) : Except Int (It × List UInt8) → Value
  | .error e => .tuple #[.agg #[.bool false, .int .i64 0, .string ⟨#[]⟩], .int .i64 0, .int .i64 e]
  | .ok (x, _) => .tuple #[itA x, .int .i64 ((at' + ib x : Nat) : Int), .int .i64 0]
theorem riOut_err (at' : Nat) (e : Int) : riOut at' (.error e) = .tuple #[.agg #[.bool false, .int .i64 0, .string ⟨#[]⟩], .int .i64 0, .int .i64 e] := rfl
theorem riOut_ok (at' : Nat) (x : It) (r : List UInt8) : riOut at' (.ok (x, r)) = .tuple #[itA x, .int .i64 ((at' + ib x : Nat) : Int), .int .i64 0] := rfl
set_option maxRecDepth 100000 in
set_option maxHeartbeats 3200000 in
theorem ritem_num (s : ByteArray) (at' : Nat) (q : List UInt8) (hq : s.data.toList.drop at' = 35 :: q) (hs : s.size ≤ 65536) (w : World) :
    Calls Tryd.prog 24 #[.string s, .int .i64 (at' : Int)] w fun e w' => e = .returned (riOut at' (rdN q)) ∧ Below w.heap.size w w' := by
  have hl : s.size = at' + (q.length + 1) := by
    have h := congrArg List.length hq
    rw [List.length_drop, text_len, List.length_cons] at h; omega
  have hidx : ∀ j, s.data.toList[at' + j]? = (35 :: q)[j]? := fun j => by rw [← hq, List.getElem?_drop]
  have x0 := run_idx s at' 35 (hidx 0)
  have i1 : ¬ (s.size : Int) ≤ (at' : Int) := by omega
  have i0 : (at' : Int) ≤ 65536 := by omega
  have i2 : (s.size : Int) ≤ 65536 := by omega
  by_cases h8 : q.length < 8
  · have hr : rdN q = .error 30 := by unfold rdN; rw [if_pos h8]
    rw [hr, riOut_err]
    have i3 : (s.size : Int) - (at' : Int) < 9 := by omega
    clear hr hq hidx hl hs h8
    go_enter Tryd.func24, Tryd.ntmps24
    go_wp2
    refine bodyPost_ret (v := .tuple #[.agg #[.bool false, .int .i64 0, .string ⟨#[]⟩], .int .i64 0, .int .i64 30]) ?_ rfl ⟨rfl, ?_⟩
    · simp [results, Tryd.results24, go_sem]
    · exact ((Below.refl _ _).alloc (Nat.le_refl _) _).alloc (by simp) _
  · have hr : rdN q = .ok (numIt (q.take 8), q.drop 8) := by unfold rdN; rw [if_neg h8]
    rw [hr]
    have i3 : ¬ (s.size : Int) - (at' : Int) < 9 := by omega
    have HI := hide hidx
    have hsg : Hid (IntKind.i64.wrap ((numV (q.take 8) 0 : Nat) : Int) = signV (numV (q.take 8) 0)) := sign_wrap _ (numV_bound8 q)
    clear hr hq hidx hl hs
    go_enter Tryd.func24, Tryd.ntmps24
    go_wp2_with fail
    go_loop [8, 9] (fun n i => ∃ k : Nat, k ≤ 8 ∧ i = .int .i64 ((k + 1 : Nat) : Int) ∧ n = .int .u64 ((numV (q.take k) 0 : Nat) : Int)) (fun _ i => 9 - (intOf i).toNat)
    case atStart => exact ⟨0, by omega, rfl, rfl⟩
    case round =>
      obtain ⟨k, hk, rfl, rfl⟩ := hrel
      by_cases hlt : k < 8
      · have j1 : ((k + 1 : Nat) : Int) < 9 := by omega
        have j2 : (0 : Int) ≤ ((k + 1 : Nat) : Int) := by omega
        have hql : k < q.length := by omega
        have hx := run_idx s (at' + (k + 1)) q[k] (by rw [HI.out, List.getElem?_cons_succ, List.getElem?_eq_getElem hql])
        rw [show ((at' + (k + 1) : Nat) : Int) = (at' : Int) + ((k + 1 : Nat) : Int) from by omega] at hx
        have hb := numV_bound q k (by omega)
        have HN : Hid (((numV (q.take (k + 1)) 0 : Nat) : Int) = ((numV (q.take k) 0 : Nat) : Int) * 256 + ((q[k].toNat : Nat) : Int)) := by
          show _ = _
          rw [numV_take q k hql]; omega
        have hc : (q[k].toNat : Int) < 256 := by have := q[k].toNat_lt; omega
        generalize q[k] = d at *
        have hb' : ((numV (q.take k) 0 : Nat) : Int) < 72057594037927936 := by omega
        generalize numV (q.take k) 0 = m at *
        have HK : Hid (((k + 1 : Nat) : Int) = (k : Int) + 1) := by show _ = _; omega
        have j3 : IntKind.i64.wrap (((k + 1 : Nat) : Int) + 1) = ((k + 1 + 1 : Nat) : Int) := by rw [show ((k + 1 : Nat) : Int) + 1 = ((k + 1 + 1 : Nat) : Int) from by omega]; exact wrap_i64_small _ (by omega)
        generalize ((k + 1 : Nat) : Int) = K at *
        go_wp2
        go_round
        case rel => exact ⟨k + 1, by omega, by go_num, by rw [HN.out]⟩
        case measure => simp only [intOf]; rw [HK.out]; omega
      · obtain rfl : k = 8 := by omega
        clear HI
        have hsg' := hsg.out
        have HA : Hid ((at' : Int) + 9 = ((at' + ib (numIt (q.take 8)) : Nat) : Int)) := by
          show _ = ((at' + 9 : Nat) : Int)
          omega
        go_wp2
        refine bodyPost_ret (v := riOut at' (.ok (numIt (q.take 8), q.drop 8))) ?_ rfl ⟨rfl, ?_⟩
        · rw [riOut_ok, ← HA.out]
          simp [results, Tryd.results24, go_sem, itA, numIt]
        · exact ((Below.refl _ _).alloc (Nat.le_refl _) _).alloc (by simp) _
theorem slice_midI (s : ByteArray) (a b : Nat) (h : a ≤ b) (h2 : b ≤ s.size) (x y : Int) (hx : x = (a : Int)) (hy : y = (b : Int)) (W : World) : (Instr.slice 9 (.string s) (some (.int .i64 x)) (some (.int .i64 y)) none).run Tryd.prog W = .ok (.string ⟨((s.data.toList.drop a).take (b - a)).toArray⟩) W := by
  rw [hx, hy]; exact slice_mid s a b h h2 W
set_option maxRecDepth 100000 in
set_option maxHeartbeats 3200000 in
theorem ritem_text (s : ByteArray) (at' : Nat) (q : List UInt8) (hq : s.data.toList.drop at' = 36 :: q) (hs : s.size ≤ 65536) (w : World) :
    Calls Tryd.prog 24 #[.string s, .int .i64 (at' : Int)] w fun e w' => e = .returned (riOut at' (rdT q)) ∧ Below w.heap.size w w' := by
  have hl : s.size = at' + (q.length + 1) := by
    have h := congrArg List.length hq
    rw [List.length_drop, text_len, List.length_cons] at h; omega
  have hidx : ∀ j, s.data.toList[at' + j]? = (36 :: q)[j]? := fun j => by rw [← hq, List.getElem?_drop]
  have x0 := run_idx s at' 36 (hidx 0)
  have i1 : ¬ (s.size : Int) ≤ (at' : Int) := by omega
  have i0 : (at' : Int) ≤ 1000000 := by omega
  have i2 : (s.size : Int) ≤ 1000000 := by omega
  by_cases h2 : q.length < 2
  · rw [rdT_short h2, riOut_err]
    have i3 : (s.size : Int) - (at' : Int) < 3 := by omega
    clear hq hidx hl hs h2
    go_enter Tryd.func24, Tryd.ntmps24
    go_wp2
    refine bodyPost_ret (v := .tuple #[.agg #[.bool false, .int .i64 0, .string ⟨#[]⟩], .int .i64 0, .int .i64 30]) ?_ rfl ⟨rfl, ?_⟩
    · simp [results, Tryd.results24, go_sem]
    · exact ((Below.refl _ _).alloc (Nat.le_refl _) _).alloc (by simp) _
  · obtain ⟨h, l, z, rfl⟩ := two_heads h2
    have i3 : ¬ (s.size : Int) - (at' : Int) < 3 := by simp only [List.length_cons] at hl; omega
    have x1 : ∀ W, (Instr.index 9 (.string s) (.int .i64 ((at' : Int) + 1))).run Tryd.prog W = .ok (.int .u8 (h.toNat : Int)) W := run_idx s (at' + 1) h (hidx 1)
    have x2 : ∀ W, (Instr.index 9 (.string s) (.int .i64 ((at' : Int) + 2))).run Tryd.prog W = .ok (.int .u8 (l.toNat : Int)) W := run_idx s (at' + 2) l (hidx 2)
    have b0 : (h.toNat : Int) < 256 := by have := h.toNat_lt; omega
    have b1 : (l.toNat : Int) < 256 := by have := l.toNat_lt; omega
    have hzz : s.size = at' + (z.length + 3) := by simp only [List.length_cons] at hl; omega
    rw [rdT]
    obtain ⟨n, hn⟩ : ∃ n, n = h.toNat * 256 + l.toNat := ⟨_, rfl⟩
    rw [← hn]
    have hnI : (h.toNat : Int) * 256 + (l.toNat : Int) = (n : Int) := by omega
    have HD : Hid (s.data.toList.drop (at' + 3) = z) := by
      show _ = _
      rw [← List.drop_drop, hq]; rfl
    have n1 : (n : Int) ≤ 1000000 := by omega
    clear hq hidx hl hs h2 hn
    by_cases hlt : z.length < n
    · rw [if_pos hlt, riOut_err]
      have i4 : (s.size : Int) - (at' : Int) - 3 < (n : Int) := by omega
      clear hzz hlt HD
      go_enter Tryd.func24, Tryd.ntmps24
      go_wp2
      go_quiet (fail)
      go_wp2
      refine bodyPost_ret (v := .tuple #[.agg #[.bool false, .int .i64 0, .string ⟨#[]⟩], .int .i64 0, .int .i64 30]) ?_ rfl ⟨rfl, ?_⟩
      · simp [results, Tryd.results24, go_sem]
      · exact (((below_drawn (((Below.refl _ _).alloc (Nat.le_refl _) _).alloc (by simp) _) _).setCell (by simp) _).setCell (by simp) _).setCell (by simp) _
    · rw [if_neg hlt]
      have i4 : ¬ (s.size : Int) - (at' : Int) - 3 < (n : Int) := by omega
      have x3 := slice_midI s (at' + 3) (at' + 3 + n) (by omega) (by omega) ((at' : Int) + 3) ((at' : Int) + 3 + (n : Int)) (by omega) (by omega)
      rw [HD.out, Nat.add_sub_cancel_left] at x3
      have HT : Hid (textIt (z.take n) = ⟨true, 0, ⟨(z.take n).toArray⟩⟩) := rfl
      have HZ : Hid ((⟨(z.take n).toArray⟩ : ByteArray).size = n) := by
        show _ = _
        rw [list_size, List.length_take]; omega
      have HA : Hid ((at' : Int) + 3 + (n : Int) = ((at' + ib (textIt (z.take n)) : Nat) : Int)) := by
        show _ = ((at' + (3 + (⟨(z.take n).toArray⟩ : ByteArray).size) : Nat) : Int)
        rw [HZ.out]; omega
      generalize (⟨(z.take n).toArray⟩ : ByteArray) = u at *
      clear hzz hlt HD HZ
      go_enter Tryd.func24, Tryd.ntmps24
      go_wp2
      go_quiet (fail)
      go_wp2
      refine bodyPost_ret (v := riOut at' (.ok (textIt (z.take n), z.drop n))) ?_ rfl ⟨rfl, ?_⟩
      · rw [riOut_ok, ← HA.out, HT.out]
        simp [results, Tryd.results24, go_sem, itA]
      · exact (((below_drawn (((Below.refl _ _).alloc (Nat.le_refl _) _).alloc (by simp) _) _).setCell (by simp) _).setCell (by simp) _).setCell (by simp) _
set_option maxRecDepth 100000 in
set_option maxHeartbeats 3200000 in
theorem ritem_any (s : ByteArray) (at' : Nat) (hat : at' ≤ s.size) (hs : s.size ≤ 65536) (w : World) :
    Calls Tryd.prog 24 #[.string s, .int .i64 (at' : Int)] w fun e w' => e = .returned (riOut at' (rd (s.data.toList.drop at'))) ∧ Below w.heap.size w w' := by
  match hq : s.data.toList.drop at' with
  | [] =>
    have hl : s.size = at' := by
      have h := congrArg List.length hq
      rw [List.length_drop, text_len, List.length_nil] at h; omega
    have i1 : (s.size : Int) ≤ (at' : Int) := by omega
    rw [rd, riOut_err]
    clear hq hl hat hs
    go_enter Tryd.func24, Tryd.ntmps24
    go_wp2
    refine bodyPost_ret (v := .tuple #[.agg #[.bool false, .int .i64 0, .string ⟨#[]⟩], .int .i64 0, .int .i64 30]) ?_ rfl ⟨rfl, ?_⟩
    · simp [results, Tryd.results24, go_sem]
    · exact ((Below.refl _ _).alloc (Nat.le_refl _) _).alloc (by simp) _
  | c :: q =>
    rw [rd]
    by_cases h35 : c = 35
    · rw [if_pos h35]
      rw [h35] at hq
      exact ritem_num s at' q hq hs w
    · rw [if_neg h35]
      by_cases h36 : c = 36
      · rw [if_pos h36]
        rw [h36] at hq
        exact ritem_text s at' q hq hs w
      · rw [if_neg h36, riOut_err]
        have hl : s.size = at' + (q.length + 1) := by
          have h := congrArg List.length hq
          rw [List.length_drop, text_len, List.length_cons] at h; omega
        have x0 := run_idx s at' c (by have h : s.data.toList[at' + 0]? = (c :: q)[0]? := (by rw [← hq, List.getElem?_drop]); exact h)
        have i1 : ¬ (s.size : Int) ≤ (at' : Int) := by omega
        have i2 : (s.size : Int) ≤ 1000000 := by omega
        have e35 : ((c.toNat : Int) == 35) = false := by
          rw [beq_eq_false_iff_ne]
          intro h
          exact h35 (UInt8.toNat_inj.1 (by show c.toNat = 35; omega))
        have e36 : ((c.toNat : Int) == 36) = false := by
          rw [beq_eq_false_iff_ne]
          intro h
          exact h36 (UInt8.toNat_inj.1 (by show c.toNat = 36; omega))
        clear hq hl hat hs h35 h36
        go_enter Tryd.func24, Tryd.ntmps24
        go_wp2
        refine bodyPost_ret (v := .tuple #[.agg #[.bool false, .int .i64 0, .string ⟨#[]⟩], .int .i64 0, .int .i64 3]) ?_ rfl ⟨rfl, ?_⟩
        · simp [results, Tryd.results24, go_sem]
        · exact ((Below.refl _ _).alloc (Nat.le_refl _) _).alloc (by simp) _
end Go.Proofs.YtelhfdhgcojmlaaDoor
