/- The contract of the document's item. | The contract of the document's Decode. -/
import Derived.Test.YtmbgcpmapaedcaaGreatDoorMg19
namespace Go.Proofs.YtmbgcpmapaedcaaGreatDoor.Wi
open Go.RowKit
/-- what the document's item answers at a place -/
def riOut (at' : Nat) : Except Int (It × List UInt8) → Value
  | .error e => .tuple #[.agg #[.bool false, .int .i64 0, .string ⟨#[]⟩], .int .i64 0, .int .i64 e]
  | .ok (x, _) => .tuple #[itA x, .int .i64 ((at' + ib x : Nat) : Int), .int .i64 0]
theorem riOut_err (at' : Nat) (e : Int) : riOut at' (.error e) = .tuple #[.agg #[.bool false, .int .i64 0, .string ⟨#[]⟩], .int .i64 0, .int .i64 e] := rfl
theorem riOut_ok (at' : Nat) (x : It) (r : List UInt8) : riOut at' (.ok (x, r)) = .tuple #[itA x, .int .i64 ((at' + ib x : Nat) : Int), .int .i64 0] := rfl
set_option maxRecDepth 100000 in
set_option maxHeartbeats 3200000 in
theorem ritem_num (s : ByteArray) (at' : Nat) (q : List UInt8) (hq : s.data.toList.drop at' = 35 :: q) (hs : s.size ≤ 65536) (w : World) :
    Calls Tryz.prog 67 #[.string s, .int .i64 (at' : Int)] w fun e w' => e = .returned (riOut at' (rdN q)) ∧ Below w.heap.size w w' := by
  have hl : s.size = at' + (q.length + 1) := by
    have h := congrArg List.length hq
    rw [List.length_drop, text_len, List.length_cons] at h; omega
  have hidx : ∀ j, s.data.toList[at' + j]? = (35 :: q)[j]? := fun j => by rw [← hq, List.getElem?_drop]
  have x0 := run_idx s at' 35 (hidx 0)
  have i1 : ¬ (s.size : Int) ≤ (at' : Int) := by omega
  have i0 : (at' : Int) ≤ 65536 := by omega
  have i2 : (s.size : Int) ≤ 65536 := by omega
  by_cases h8 : q.length < 8
  · have hr : rdN q = .error 30 := by unfold rdN; rw [if_pos h8]
    rw [hr, riOut_err]
    have i3 : (s.size : Int) - (at' : Int) < 9 := by omega
    clear hr hq hidx hl hs h8
    go_enter Tryz.func67, Tryz.ntmps67
    go_wp2
    refine bodyPost_ret (v := .tuple #[.agg #[.bool false, .int .i64 0, .string ⟨#[]⟩], .int .i64 0, .int .i64 30]) ?_ rfl ⟨rfl, ?_⟩
    · simp [results, Tryz.results67, go_sem]
    · exact ((Below.refl _ _).alloc (Nat.le_refl _) _).alloc (by simp) _
  · have hr : rdN q = .ok (numIt (q.take 8), q.drop 8) := by unfold rdN; rw [if_neg h8]
    rw [hr]
    have i3 : ¬ (s.size : Int) - (at' : Int) < 9 := by omega
    have HI := hide hidx
    have hsg : Hid (IntKind.i64.wrap ((numV (q.take 8) 0 : Nat) : Int) = signV (numV (q.take 8) 0)) := sign_wrap _ (numV_bound8 q)
    clear hr hq hidx hl hs
    go_enter Tryz.func67, Tryz.ntmps67
    go_wp2_with fail
    go_loop [8, 9] (fun n i => ∃ k : Nat, k ≤ 8 ∧ i = .int .i64 ((k + 1 : Nat) : Int) ∧ n = .int .u64 ((numV (q.take k) 0 : Nat) : Int)) (fun _ i => 9 - (intOf i).toNat)
    case atStart => exact ⟨0, by omega, rfl, rfl⟩
    case round =>
      obtain ⟨k, hk, rfl, rfl⟩ := hrel
      by_cases hlt : k < 8
      · have j1 : ((k + 1 : Nat) : Int) < 9 := by omega
        have j2 : (0 : Int) ≤ ((k + 1 : Nat) : Int) := by omega
        have hql : k < q.length := by omega
        have hx := run_idx s (at' + (k + 1)) q[k] (by rw [HI.out, List.getElem?_cons_succ, List.getElem?_eq_getElem hql])
        rw [show ((at' + (k + 1) : Nat) : Int) = (at' : Int) + ((k + 1 : Nat) : Int) from by omega] at hx
        have hb := numV_bound q k (by omega)
        have HN : Hid (((numV (q.take (k + 1)) 0 : Nat) : Int) = ((numV (q.take k) 0 : Nat) : Int) * 256 + ((q[k].toNat : Nat) : Int)) := by
          show _ = _
          rw [numV_take q k hql]; omega
        have hc : (q[k].toNat : Int) < 256 := by have := q[k].toNat_lt; omega
        generalize q[k] = d at *
        have hb' : ((numV (q.take k) 0 : Nat) : Int) < 72057594037927936 := by omega
        generalize numV (q.take k) 0 = m at *
        have HK : Hid (((k + 1 : Nat) : Int) = (k : Int) + 1) := by show _ = _; omega
        have j3 : IntKind.i64.wrap (((k + 1 : Nat) : Int) + 1) = ((k + 1 + 1 : Nat) : Int) := by rw [show ((k + 1 : Nat) : Int) + 1 = ((k + 1 + 1 : Nat) : Int) from by omega]; exact wrap_i64_small _ (by omega)
        generalize ((k + 1 : Nat) : Int) = K at *
        go_wp2
        go_round
        case rel => exact ⟨k + 1, by omega, by go_num, by rw [HN.out]⟩
        case measure => simp only [intOf]; rw [HK.out]; omega
      · obtain rfl : k = 8 := by omega
        clear HI
        have hsg' := hsg.out
        have HA : Hid ((at' : Int) + 9 = ((at' + ib (numIt (q.take 8)) : Nat) : Int)) := by
          show _ = ((at' + 9 : Nat) : Int)
          omega
        go_wp2
        refine bodyPost_ret (v := riOut at' (.ok (numIt (q.take 8), q.drop 8))) ?_ rfl ⟨rfl, ?_⟩
        · rw [riOut_ok, ← HA.out]
          simp [results, Tryz.results67, go_sem, itA, numIt]
        · exact ((Below.refl _ _).alloc (Nat.le_refl _) _).alloc (by simp) _
theorem slice_midI (s : ByteArray) (a b : Nat) (h : a ≤ b) (h2 : b ≤ s.size) (x y : Int) (hx : x = (a : Int)) (hy : y = (b : Int)) (W : World) : (Instr.slice 9 (.string s) (some (.int .i64 x)) (some (.int .i64 y)) none).run Tryz.prog W = .ok (.string ⟨((s.data.toList.drop a).take (b - a)).toArray⟩) W := by
  rw [hx, hy]; exact slice_mid s a b h h2 W
set_option maxRecDepth 100000 in
set_option maxHeartbeats 3200000 in
theorem ritem_text (s : ByteArray) (at' : Nat) (q : List UInt8) (hq : s.data.toList.drop at' = 36 :: q) (hs : s.size ≤ 65536) (w : World) :
    Calls Tryz.prog 67 #[.string s, .int .i64 (at' : Int)] w fun e w' => e = .returned (riOut at' (rdT q)) ∧ Below w.heap.size w w' := by
  have hl : s.size = at' + (q.length + 1) := by
    have h := congrArg List.length hq
    rw [List.length_drop, text_len, List.length_cons] at h; omega
  have hidx : ∀ j, s.data.toList[at' + j]? = (36 :: q)[j]? := fun j => by rw [← hq, List.getElem?_drop]
  have x0 := run_idx s at' 36 (hidx 0)
  have i1 : ¬ (s.size : Int) ≤ (at' : Int) := by omega
  have i0 : (at' : Int) ≤ 1000000 := by omega
  have i2 : (s.size : Int) ≤ 1000000 := by omega
  by_cases h2 : q.length < 2
  · rw [rdT_short h2, riOut_err]
    have i3 : (s.size : Int) - (at' : Int) < 3 := by omega
    clear hq hidx hl hs h2
    go_enter Tryz.func67, Tryz.ntmps67
    go_wp2
    refine bodyPost_ret (v := .tuple #[.agg #[.bool false, .int .i64 0, .string ⟨#[]⟩], .int .i64 0, .int .i64 30]) ?_ rfl ⟨rfl, ?_⟩
    · simp [results, Tryz.results67, go_sem]
    · exact ((Below.refl _ _).alloc (Nat.le_refl _) _).alloc (by simp) _
  · obtain ⟨h, l, z, rfl⟩ := two_heads h2
    have i3 : ¬ (s.size : Int) - (at' : Int) < 3 := by simp only [List.length_cons] at hl; omega
    have x1 : ∀ W, (Instr.index 9 (.string s) (.int .i64 ((at' : Int) + 1))).run Tryz.prog W = .ok (.int .u8 (h.toNat : Int)) W := run_idx s (at' + 1) h (hidx 1)
    have x2 : ∀ W, (Instr.index 9 (.string s) (.int .i64 ((at' : Int) + 2))).run Tryz.prog W = .ok (.int .u8 (l.toNat : Int)) W := run_idx s (at' + 2) l (hidx 2)
    have b0 : (h.toNat : Int) < 256 := by have := h.toNat_lt; omega
    have b1 : (l.toNat : Int) < 256 := by have := l.toNat_lt; omega
    have hzz : s.size = at' + (z.length + 3) := by simp only [List.length_cons] at hl; omega
    rw [rdT]
    obtain ⟨n, hn⟩ : ∃ n, n = h.toNat * 256 + l.toNat := ⟨_, rfl⟩
    rw [← hn]
    have hnI : (h.toNat : Int) * 256 + (l.toNat : Int) = (n : Int) := by omega
    have HD : Hid (s.data.toList.drop (at' + 3) = z) := by
      show _ = _
      rw [← List.drop_drop, hq]; rfl
    have n1 : (n : Int) ≤ 1000000 := by omega
    clear hq hidx hl hs h2 hn
    by_cases hlt : z.length < n
    · rw [if_pos hlt, riOut_err]
      have i4 : (s.size : Int) - (at' : Int) - 3 < (n : Int) := by omega
      clear hzz hlt HD
      go_enter Tryz.func67, Tryz.ntmps67
      go_wp2
      go_quiet (fail)
      go_wp2
      refine bodyPost_ret (v := .tuple #[.agg #[.bool false, .int .i64 0, .string ⟨#[]⟩], .int .i64 0, .int .i64 30]) ?_ rfl ⟨rfl, ?_⟩
      · simp [results, Tryz.results67, go_sem]
      · exact (((below_drawn (((Below.refl _ _).alloc (Nat.le_refl _) _).alloc (by simp) _) _).setCell (by simp) _).setCell (by simp) _).setCell (by simp) _
    · rw [if_neg hlt]
      have i4 : ¬ (s.size : Int) - (at' : Int) - 3 < (n : Int) := by omega
      have x3 := slice_midI s (at' + 3) (at' + 3 + n) (by omega) (by omega) ((at' : Int) + 3) ((at' : Int) + 3 + (n : Int)) (by omega) (by omega)
      rw [HD.out, Nat.add_sub_cancel_left] at x3
      have HT : Hid (textIt (z.take n) = ⟨true, 0, ⟨(z.take n).toArray⟩⟩) := rfl
      have HZ : Hid ((⟨(z.take n).toArray⟩ : ByteArray).size = n) := by
        show _ = _
        rw [list_size, List.length_take]; omega
      have HA : Hid ((at' : Int) + 3 + (n : Int) = ((at' + ib (textIt (z.take n)) : Nat) : Int)) := by
        show _ = ((at' + (3 + (⟨(z.take n).toArray⟩ : ByteArray).size) : Nat) : Int)
        rw [HZ.out]; omega
      generalize (⟨(z.take n).toArray⟩ : ByteArray) = u at *
      clear hzz hlt HD HZ
      go_enter Tryz.func67, Tryz.ntmps67
      go_wp2
      go_quiet (fail)
      go_wp2
      refine bodyPost_ret (v := riOut at' (.ok (textIt (z.take n), z.drop n))) ?_ rfl ⟨rfl, ?_⟩
      · rw [riOut_ok, ← HA.out, HT.out]
        simp [results, Tryz.results67, go_sem, itA]
      · exact (((below_drawn (((Below.refl _ _).alloc (Nat.le_refl _) _).alloc (by simp) _) _).setCell (by simp) _).setCell (by simp) _).setCell (by simp) _
set_option maxRecDepth 100000 in
set_option maxHeartbeats 3200000 in
theorem ritem_any (s : ByteArray) (at' : Nat) (hat : at' ≤ s.size) (hs : s.size ≤ 65536) (w : World) :
    Calls Tryz.prog 67 #[.string s, .int .i64 (at' : Int)] w fun e w' => e = .returned (riOut at' (rd (s.data.toList.drop at'))) ∧ Below w.heap.size w w' := by
  match hq : s.data.toList.drop at' with
  | [] =>
    have hl : s.size = at' := by
      have h := congrArg List.length hq
      rw [List.length_drop, text_len, List.length_nil] at h; omega
    have i1 : (s.size : Int) ≤ (at' : Int) := by omega
    rw [rd, riOut_err]
    clear hq hl hat hs
    go_enter Tryz.func67, Tryz.ntmps67
    go_wp2
    refine bodyPost_ret (v := .tuple #[.agg #[.bool false, .int .i64 0, .string ⟨#[]⟩], .int .i64 0, .int .i64 30]) ?_ rfl ⟨rfl, ?_⟩
    · simp [results, Tryz.results67, go_sem]
    · exact ((Below.refl _ _).alloc (Nat.le_refl _) _).alloc (by simp) _
  | c :: q =>
    rw [rd]
    by_cases h35 : c = 35
    · rw [if_pos h35]
      rw [h35] at hq
      exact ritem_num s at' q hq hs w
    · rw [if_neg h35]
      by_cases h36 : c = 36
      · rw [if_pos h36]
        rw [h36] at hq
        exact ritem_text s at' q hq hs w
      · rw [if_neg h36, riOut_err]
        have hl : s.size = at' + (q.length + 1) := by
          have h := congrArg List.length hq
          rw [List.length_drop, text_len, List.length_cons] at h; omega
        have x0 := run_idx s at' c (by have h : s.data.toList[at' + 0]? = (c :: q)[0]? := (by rw [← hq, List.getElem?_drop]); exact h)
        have i1 : ¬ (s.size : Int) ≤ (at' : Int) := by omega
        have i2 : (s.size : Int) ≤ 1000000 := by omega
        have e35 : ((c.toNat : Int) == 35) = false := by
          rw [beq_eq_false_iff_ne]
          intro h
          exact h35 (UInt8.toNat_inj.1 (by show c.toNat = 35; omega))
        have e36 : ((c.toNat : Int) == 36) = false := by
          rw [beq_eq_false_iff_ne]
          intro h
          exact h36 (UInt8.toNat_inj.1 (by show c.toNat = 36; omega))
        clear hq hl hat hs h35 h36
        go_enter Tryz.func67, Tryz.ntmps67
        go_wp2
        refine bodyPost_ret (v := .tuple #[.agg #[.bool false, .int .i64 0, .string ⟨#[]⟩], .int .i64 0, .int .i64 3]) ?_ rfl ⟨rfl, ?_⟩
        · simp [results, Tryz.results67, go_sem]
        · exact ((Below.refl _ _).alloc (Nat.le_refl _) _).alloc (by simp) _
end Go.Proofs.YtmbgcpmapaedcaaGreatDoor.Wi
namespace Go.Proofs.YtmbgcpmapaedcaaGreatDoor.Wi
open Go.RowKit
theorem alloc2_of (w : World) (A B : Obj) : ((w.alloc A).alloc B).heap[w.heap.size + 1]? = some B := by have := heap_alloc_new (w.alloc A) B; simpa using this
/-- a fault that comes of the document's Fault, stored as the result -/
theorem cell_keep {w w1 : World} (hb1 : Below (w.heap.size + 1) (w.alloc (.cells #[.int .i64 0, .int .i64 0] 51)) w1) :
    w1.cell? ⟨w.heap.size, 0, none⟩ = some (.int .i64 0) ∧ w1.cell? ⟨w.heap.size, 1, none⟩ = some (.int .i64 0) ∧ w1.frozen? ⟨w.heap.size, 0, none⟩ = false ∧ w1.frozen? ⟨w.heap.size, 1, none⟩ = false ∧ Below w.heap.size w w1 :=
  ⟨(hb1.cell (p := ⟨w.heap.size, 0, none⟩) (by simp)).trans (by simp), (hb1.cell (p := ⟨w.heap.size, 1, none⟩) (by simp)).trans (by simp),
   (hb1.frozen (p := ⟨w.heap.size, 0, none⟩) (by simp)).trans (by simp), (hb1.frozen (p := ⟨w.heap.size, 1, none⟩) (by simp)).trans (by simp),
   ((Below.refl _ _).alloc (Nat.le_refl _) _).trans (hb1.mono (by omega))⟩
set_option maxRecDepth 100000 in
set_option maxHeartbeats 3200000 in
theorem rdecode_any (s : ByteArray) (hs : s.size ≤ 140737488355328) (w : World) :
    Calls Tryz.prog 31 #[.string s] w (DecOut s.data.toList w) := by
  have hl := text_len s
  by_cases h1 : 65536 < s.data.toList.length
  · have HD := hide (decB_long _ h1)
    have i1 : (65536 : Int) < (s.size : Int) := by omega
    have c1 := fun W => fault_any 0 2 W
    clear h1 hl hs
    go_enter Tryz.func31, Tryz.ntmps31
    go_wp2_with fail
    refine (c1 _).mono ?_
    rintro e w1 ⟨rfl, hb1⟩
    obtain ⟨k0, k1, f0, f1, B1⟩ := cell_keep (w := w) (by simpa using hb1)
    have HB := hide B1
    clear hb1 B1 c1
    go_wp2
    refine bodyPost_ret (v := .tuple #[.slice none 0 0, .agg #[.int .i64 0, .int .i64 2]]) ?_ rfl ⟨_, [], 0, 2, HD.out, rfl, World.ownsRow_nil _ _ _ _, ?_⟩
    · simp [results, Tryz.results31, go_sem, k0, k1]
    · exact (HB.out.setCell (by simp) _).setCell (by simp) _
  by_cases h2 : s.data.toList.length < 2
  · have HD := hide (decB_short _ h1 h2)
    have i1 : ¬ (65536 : Int) < (s.size : Int) := by omega
    have i2 : (s.size : Int) < 2 := by omega
    have c1 := fun W => fault_any 0 30 W
    clear h1 h2 hl hs
    go_enter Tryz.func31, Tryz.ntmps31
    go_wp2_with fail
    refine (c1 _).mono ?_
    rintro e w1 ⟨rfl, hb1⟩
    obtain ⟨k0, k1, f0, f1, B1⟩ := cell_keep (w := w) (by simpa using hb1)
    have HB := hide B1
    clear hb1 B1 c1
    go_wp2
    refine bodyPost_ret (v := .tuple #[.slice none 0 0, .agg #[.int .i64 0, .int .i64 30]]) ?_ rfl ⟨_, [], 0, 30, HD.out, rfl, World.ownsRow_nil _ _ _ _, ?_⟩
    · simp [results, Tryz.results31, go_sem, k0, k1]
    · exact (HB.out.setCell (by simp) _).setCell (by simp) _
  obtain ⟨h, l, z, hq⟩ := two_heads h2
  have x0 : ∀ W, (Instr.index 9 (.string s) (.int .i64 0)).run Tryz.prog W = .ok (.int .u8 (h.toNat : Int)) W := run_idx s 0 h (by rw [hq]; rfl)
  have x1 : ∀ W, (Instr.index 9 (.string s) (.int .i64 1)).run Tryz.prog W = .ok (.int .u8 (l.toNat : Int)) W := run_idx s 1 l (by rw [hq]; rfl)
  have b0 : (h.toNat : Int) < 256 := by have := h.toNat_lt; omega
  have b1 : (l.toNat : Int) < 256 := by have := l.toNat_lt; omega
  have i1 : ¬ (65536 : Int) < (s.size : Int) := by omega
  have i2 : ¬ (s.size : Int) < 2 := by omega
  obtain ⟨N, hN⟩ : ∃ N, N = manyB s.data.toList := ⟨_, rfl⟩
  have hNI : (h.toNat : Int) * 256 + (l.toNat : Int) = (N : Int) := by
    have : N = h.toNat * 256 + l.toNat := by rw [hN, hq]; rfl
    omega
  by_cases h3 : 1000 < manyB s.data.toList
  · have HD := hide (decB_many _ h1 h2 h3)
    have i3 : (1000 : Int) < (N : Int) := by omega
    have c1 := fun W => fault_any 0 2 W
    clear h1 h2 hl hs hN h3 hq
    go_enter Tryz.func31, Tryz.ntmps31
    go_wp2_with fail
    go_quiet (fail)
    go_wp2_with fail
    refine (c1 _).mono ?_
    rintro e w1 ⟨rfl, hb1⟩
    have hb1' : Below (w.heap.size + 1) (w.alloc (.cells #[.int .i64 0, .int .i64 0] 51)) w1 := (below_drawn (Below.refl _ _) _).trans (by simpa using hb1)
    obtain ⟨k0, k1, f0, f1, B1⟩ := cell_keep hb1'
    have HB := hide B1
    clear hb1 B1 c1 hb1'
    go_wp2
    refine bodyPost_ret (v := .tuple #[.slice none 0 0, .agg #[.int .i64 0, .int .i64 2]]) ?_ rfl ⟨_, [], 0, 2, HD.out, rfl, World.ownsRow_nil _ _ _ _, ?_⟩
    · simp [results, Tryz.results31, go_sem, k0, k1]
    · exact (HB.out.setCell (by simp) _).setCell (by simp) _
  have HE := hide (decB_err s.data.toList h1 h2 h3)
  have HM := hide (decB_more s.data.toList h1 h2 h3)
  have HO := hide (decB_ok s.data.toList h1 h2 h3)
  rw [← hN] at HE HM HO h3
  have i3 : ¬ (1000 : Int) < (N : Int) := by omega
  have n0 : (0 : Int) ≤ (N : Int) := by omega
  obtain ⟨i0, hi, hz0, hz1, hz2⟩ := info_parts in38
  have HS : Hid (s.size ≤ 65536 ∧ 2 ≤ s.size) := ⟨by omega, by omega⟩
  have HL := hide hl
  have H3 := hide h3
  clear h1 h2 hl hs hN h3 hq
  go_enter Tryz.func31, Tryz.ntmps31
  go_wp2_with fail
  go_quiet (fail)
  go_wp2_with fail
  go_loopw [5, 6, 7] (fun v a i wr => ∃ (k at' : Nat) (l : List It) (v' : Value), k ≤ N ∧ l.length = k ∧ i = .int .i64 k ∧ a = .int .i64 at' ∧ v' = v ∧ at' ≤ s.size ∧
      rds N (s.data.toList.drop 2) = rdsC l (rds (N - k) (s.data.toList.drop at')) ∧ wr.ownsRow (w.heap.size + 1) 61 3 v' k (itsC l) ∧ Below (w.heap.size + 1) (w.alloc (.cells #[.int .i64 0, .int .i64 0] 51)) wr) (fun _ _ i _ => N - (intOf i).toNat)
  case atStart => exact ⟨0, 2, [], _, by omega, rfl, rfl, rfl, rfl, HS.out.2, (rdsC_nil _).symm, World.ownsRow_nil _ _ _ _, below_drawn (Below.refl _ _) _⟩
  case round =>
    obtain ⟨k, at', l, vv, hk, hlk, rfl, rfl, rfl, hat, hrel, hown, hbel⟩ := hrel
    have HR := hide hrel
    have HW := hide hown
    have HB := hide hbel
    have zr : w.heap.size + 1 ≤ wr.heap.size := by have := hbel.size; simpa using this
    clear hrel hown hbel
    by_cases hlt : k < N
    · have j1 : (k : Int) < (N : Int) := by omega
      have c1 := fun W => ritem_any s at' hat HS.out.1 W
      cases hrd : rd (s.data.toList.drop at') with
      | error e =>
        rw [hrd, riOut_err] at c1
        have hr : Hid (decB s.data.toList = ([], at', e)) := by
          have h1 := HR.out
          rw [show N - k = (N - k - 1) + 1 from by omega, rdsC_err _ _ _ _ hrd] at h1
          have h2 := HE.out _ _ h1
          rw [List.length_drop, HL.out, show s.size - (s.size - at') = at' from by omega] at h2
          exact h2
        have heb : (e == 0) = false := by rw [beq_eq_false_iff_ne]; rcases rd_err hrd with h | h <;> omega
        have c2 := fun W => fault_any (at' : Int) e W
        clear hrd HR HW
        go_wp2_with fail
        refine (c1 _).mono ?_
        rintro e' w2 ⟨rfl, hb2⟩
        have B2 : Hid (Below (w.heap.size + 1) (w.alloc (.cells #[.int .i64 0, .int .i64 0] 51)) w2) := HB.out.trans (hb2.mono zr)
        have z2 : w.heap.size + 1 ≤ w2.heap.size := by have := B2.out.size; simpa using this
        clear hb2 c1 HB
        go_wp2_with fail
        refine (c2 _).mono ?_
        rintro e' w3 ⟨rfl, hb3⟩
        obtain ⟨k0, k1, f0, f1, B3⟩ := cell_keep ((B2.out.alloc z2 _).trans (hb3.mono (by simp; omega)))
        have HB3 := hide B3
        clear hb3 c2 B2 B3
        go_wp2
        refine bodyPost_ret (v := .tuple #[.slice none 0 0, .agg #[.int .i64 (at' : Int), .int .i64 e]]) ?_ rfl ⟨_, [], at', e, hr.out, rfl, World.ownsRow_nil _ _ _ _, ?_⟩
        · simp [results, Tryz.results31, go_sem, k0, k1]
        · exact (HB3.out.setCell (by simp) _).setCell (by simp) _
      | ok q =>
        obtain ⟨x, r'⟩ := q
        rw [hrd, riOut_ok] at c1
        obtain ⟨ha, hm, hf⟩ := rd_ok hrd
        have hlen : (s.data.toList.drop at').length = ib x + r'.length := by rw [ha, List.length_append, oneB_length]
        rw [List.length_drop, HL.out] at hlen
        have hdr : s.data.toList.drop (at' + ib x) = r' := by
          rw [← List.drop_drop, ha, ← oneB_length]; exact List.drop_left
        have HR2 : Hid (rds N (s.data.toList.drop 2) = rdsC (l ++ [x]) (rds (N - (k + 1)) (s.data.toList.drop (at' + ib x)))) := by
          have h1 := HR.out
          rw [show N - k = (N - (k + 1)) + 1 from by omega, rdsC_ok _ _ _ _ _ hrd] at h1
          rw [hdr]; exact h1
        have hib : at' + ib x ≤ s.size := by omega
        have HX : Hid (itC x = [.bool x.t, .int .i64 x.n, .string x.s]) := rfl
        unfold itA at c1
        clear hrd HR ha hm hf hlen hdr
        generalize at' + ib x = y at *
        generalize x.t = xt at *
        generalize x.n = xn at *
        generalize x.s = xss at *
        go_wp2_with fail
        refine (c1 _).mono ?_
        rintro e' w2 ⟨rfl, hb2⟩
        have B2 : Hid (Below (w.heap.size + 1) (w.alloc (.cells #[.int .i64 0, .int .i64 0] 51)) w2) := HB.out.trans (hb2.mono zr)
        have z2 : w.heap.size + 1 ≤ w2.heap.size := by have := B2.out.size; simpa using this
        have W2 : Hid (w2.ownsRow (w.heap.size + 1) 61 3 vv k (itsC l)) := owns_below HW.out hb2
        clear hb2 c1 HW HB
        go_wp2_with (at_builtin; go_must (refine wpList_append_lies _ (by rfl) _ _ _ (by rfl) (w.heap.size + 1) 61 i0 _ 3 32 Tryz.underlying45 hi hz0 hz1 hz2 rfl (by omega) vv k _ (by rfl) ((W2.out.alloc _).alloc _) ⟨w2.heap.size + 1, 0, none⟩ 1 1 [.bool xt, .int .i64 xn, .string xss] (by rfl) (by rfl) (World.news_of_block (cs := #[.bool xt, .int .i64 xn, .string xss]) (t := 61) (fr := (0, 0)) (alloc2_of w2 _ _)) (by simp [Value.oneCell']) (by omega) (by unfold maxLen; omega) (by omega) (by simp; omega) (w2.heap.size + 1 + 1) (by simp) ?_; intro gg cap' w3 hown3 hgrow hat3 hlt3))
        go_roundw
        case rel => exact ⟨k + 1, y, l ++ [x], _, by omega, by rw [List.length_append, hlk]; rfl, by go_num, rfl, rfl, hib, HR2.out, by rw [itsC_append, show itsC [x] = itC x from List.append_nil _, HX.out]; exact hown3, ((B2.out.alloc z2 _).alloc (by simp; omega) _).grown hgrow (by simp; omega) (fun r hr => (W2.out.lt r hr).1)⟩
        case measure => simp [intOf]; omega
    · obtain rfl : k = N := by omega
      have hfin : rds k (s.data.toList.drop 2) = .ok (l, s.data.toList.drop at') := by
        have h1 := HR.out
        rw [Nat.sub_self, rds] at h1
        rw [h1]; show Except.ok (l ++ [], _) = _; rw [List.append_nil]
      clear HR HE
      by_cases hmo : at' < s.size
      · have hr : Hid (decB s.data.toList = ([], at', 31)) := by
          have h2 := HM.out _ _ hfin (fun h => by have := congrArg List.length h; rw [List.length_drop, HL.out, List.length_nil] at this; omega)
          rw [List.length_drop, HL.out, show s.size - (s.size - at') = at' from by omega] at h2
          exact h2
        have j3 : (at' : Int) < (s.size : Int) := by omega
        have c2 := fun W => fault_any (at' : Int) 31 W
        clear hfin HM HO hmo HW hat
        go_wp2_with fail
        refine (c2 _).mono ?_
        rintro e' w3 ⟨rfl, hb3⟩
        obtain ⟨k0, k1, f0, f1, B3⟩ := cell_keep (HB.out.trans (hb3.mono zr))
        have HB3 := hide B3
        clear hb3 c2 HB B3
        go_wp2
        refine bodyPost_ret (v := .tuple #[.slice none 0 0, .agg #[.int .i64 (at' : Int), .int .i64 31]]) ?_ rfl ⟨_, [], at', 31, hr.out, rfl, World.ownsRow_nil _ _ _ _, ?_⟩
        · simp [results, Tryz.results31, go_sem, k0, k1]
        · exact (HB3.out.setCell (by simp) _).setCell (by simp) _
      · have hr : Hid (decB s.data.toList = (l, 0, 0)) := by
          have hnil : s.data.toList.drop at' = [] := List.eq_nil_of_length_eq_zero (by rw [List.length_drop, HL.out]; omega)
          rw [hnil] at hfin
          exact HO.out _ hfin
        have j3 : ¬ (at' : Int) < (s.size : Int) := by omega
        obtain ⟨k0, k1, f0, f1, B3⟩ := cell_keep HB.out
        have HB3 := hide B3
        clear hfin HM HO hmo hat HB B3
        go_wp2
        refine bodyPost_ret (v := .tuple #[vv, .agg #[.int .i64 0, .int .i64 0]]) ?_ rfl ⟨vv, l, 0, 0, hr.out, rfl, ?_, ?_⟩
        · simp [results, Tryz.results31, go_sem, k0, k1]
        · rw [hlk]; exact owns_base (owns_set (owns_set HW.out _ _ (by omega) _) _ _ (by omega) _) (by omega)
        · exact (HB3.out.setCell (by simp) _).setCell (by simp) _
end Go.Proofs.YtmbgcpmapaedcaaGreatDoor.Wi
