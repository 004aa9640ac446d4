/- The contract of the document's Decode. -/
import Derived.Test.YtelhfdhgcojmlaaDoorRItemW
namespace Go.Proofs.YtelhfdhgcojmlaaDoor
open Go.RowKit
theorem alloc2_of (w : World) (A B : Obj) : ((w.alloc A).alloc B).heap[w.heap.size + 1]? = some B := by have := heap_alloc_new (w.alloc A) B; simpa using this
/-- a fault that comes of the document's Fault, stored as the result -/
theorem cell_keep {w w1 : World} (hb1 : Below (w.heap.size + 1) (w.alloc (.cells #[.int .i64 0, .int .i64 0] 28)) w1) :
    w1.cell? ⟨w.heap.size, 0, none⟩ = some (.int .i64 0) ∧ w1.cell? ⟨w.heap.size, 1, none⟩ = some (.int .i64 0) ∧ w1.frozen? ⟨w.heap.size, 0, none⟩ = false ∧ w1.frozen? ⟨w.heap.size, 1, none⟩ = false ∧ Below w.heap.size w w1 :=
  ⟨(hb1.cell (p := ⟨w.heap.size, 0, none⟩) (by simp)).trans (by simp), (hb1.cell (p := ⟨w.heap.size, 1, none⟩) (by simp)).trans (by simp),
   (hb1.frozen (p := ⟨w.heap.size, 0, none⟩) (by simp)).trans (by simp), (hb1.frozen (p := ⟨w.heap.size, 1, none⟩) (by simp)).trans (by simp),
   ((Below.refl _ _).alloc (Nat.le_refl _) _).trans (hb1.mono (by omega))⟩
set_option maxRecDepth 100000 in
set_option maxHeartbeats 3200000 in
theorem rdecode_any (s : ByteArray) (hs : s.size ≤ 140737488355328) (w : World) :
    Calls Tryd.prog 11 #[.string s] w (DecOut s.data.toList w) := by
  have hl := text_len s
  by_cases h1 : 65536 < s.data.toList.length
  · have HD := hide (decB_long _ h1)
    have i1 : (65536 : Int) < (s.size : Int) := by omega
    have c1 := fun W => fault_any 0 2 W
    clear h1 hl hs
    go_enter Tryd.func11, Tryd.ntmps11
    go_wp2_with fail
    refine (c1 _).mono ?_
    rintro e w1 ⟨rfl, hb1⟩
    obtain ⟨k0, k1, f0, f1, B1⟩ := cell_keep (w := w) (by simpa using hb1)
    have HB := hide B1
    clear hb1 B1 c1
    go_wp2
    refine bodyPost_ret (v := .tuple #[.slice none 0 0, .agg #[.int .i64 0, .int .i64 2]]) ?_ rfl ⟨_, [], 0, 2, HD.out, rfl, World.ownsRow_nil _ _ _ _, ?_⟩
    · simp [results, Tryd.results11, go_sem, k0, k1]
    · exact (HB.out.setCell (by simp) _).setCell (by simp) _
  by_cases h2 : s.data.toList.length < 2
  · have HD := hide (decB_short _ h1 h2)
    have i1 : ¬ (65536 : Int) < (s.size : Int) := by omega
    have i2 : (s.size : Int) < 2 := by omega
    have c1 := fun W => fault_any 0 30 W
    clear h1 h2 hl hs
    go_enter Tryd.func11, Tryd.ntmps11
    go_wp2_with fail
    refine (c1 _).mono ?_
    rintro e w1 ⟨rfl, hb1⟩
    obtain ⟨k0, k1, f0, f1, B1⟩ := cell_keep (w := w) (by simpa using hb1)
    have HB := hide B1
    clear hb1 B1 c1
    go_wp2
    refine bodyPost_ret (v := .tuple #[.slice none 0 0, .agg #[.int .i64 0, .int .i64 30]]) ?_ rfl ⟨_, [], 0, 30, HD.out, rfl, World.ownsRow_nil _ _ _ _, ?_⟩
    · simp [results, Tryd.results11, go_sem, k0, k1]
    · exact (HB.out.setCell (by simp) _).setCell (by simp) _
  obtain ⟨h, l, z, hq⟩ := two_heads h2
  have x0 : ∀ W, (Instr.index 9 (.string s) (.int .i64 0)).run Tryd.prog W = .ok (.int .u8 (h.toNat : Int)) W := run_idx s 0 h (by rw [hq]; rfl)
  have x1 : ∀ W, (Instr.index 9 (.string s) (.int .i64 1)).run Tryd.prog W = .ok (.int .u8 (l.toNat : Int)) W := run_idx s 1 l (by rw [hq]; rfl)
  have b0 : (h.toNat : Int) < 256 := by have := h.toNat_lt; omega
  have b1 : (l.toNat : Int) < 256 := by have := l.toNat_lt; omega
  have i1 : ¬ (65536 : Int) < (s.size : Int) := by omega
  have i2 : ¬ (s.size : Int) < 2 := by omega
  obtain ⟨N, hN⟩ : ∃ N, N = manyB s.data.toList := ⟨_, rfl⟩
  have hNI : (h.toNat : Int) * 256 + (l.toNat : Int) = (N : Int) := by
    have : N = h.toNat * 256 + l.toNat := by rw [hN, hq]; rfl
    omega
  by_cases h3 : 1000 < manyB s.data.toList
  · have HD := hide (decB_many _ h1 h2 h3)
    have i3 : (1000 : Int) < (N : Int) := by omega
    have c1 := fun W => fault_any 0 2 W
    clear h1 h2 hl hs hN h3 hq
    go_enter Tryd.func11, Tryd.ntmps11
    go_wp2_with fail
    go_quiet (fail)
    go_wp2_with fail
    refine (c1 _).mono ?_
    rintro e w1 ⟨rfl, hb1⟩
    have hb1' : Below (w.heap.size + 1) (w.alloc (.cells #[.int .i64 0, .int .i64 0] 28)) w1 := (below_drawn (Below.refl _ _) _).trans (by simpa using hb1)
    obtain ⟨k0, k1, f0, f1, B1⟩ := cell_keep hb1'
    have HB := hide B1
    clear hb1 B1 c1 hb1'
    go_wp2
    refine bodyPost_ret (v := .tuple #[.slice none 0 0, .agg #[.int .i64 0, .int .i64 2]]) ?_ rfl ⟨_, [], 0, 2, HD.out, rfl, World.ownsRow_nil _ _ _ _, ?_⟩
    · simp [results, Tryd.results11, go_sem, k0, k1]
    · exact (HB.out.setCell (by simp) _).setCell (by simp) _
  have HE := hide (decB_err s.data.toList h1 h2 h3)
  have HM := hide (decB_more s.data.toList h1 h2 h3)
  have HO := hide (decB_ok s.data.toList h1 h2 h3)
  rw [← hN] at HE HM HO h3
  have i3 : ¬ (1000 : Int) < (N : Int) := by omega
  have n0 : (0 : Int) ≤ (N : Int) := by omega
  obtain ⟨i0, hi, hz0, hz1, hz2⟩ := info_parts in38
  have HS : Hid (s.size ≤ 65536 ∧ 2 ≤ s.size) := ⟨by omega, by omega⟩
  have HL := hide hl
  have H3 := hide h3
  clear h1 h2 hl hs hN h3 hq
  go_enter Tryd.func11, Tryd.ntmps11
  go_wp2_with fail
  go_quiet (fail)
  go_wp2_with fail
  go_loopw [5, 6, 7] (fun v a i wr => ∃ (k at' : Nat) (l : List It) (v' : Value), k ≤ N ∧ l.length = k ∧ i = .int .i64 k ∧ a = .int .i64 at' ∧ v' = v ∧ at' ≤ s.size ∧
      rds N (s.data.toList.drop 2) = rdsC l (rds (N - k) (s.data.toList.drop at')) ∧ wr.ownsRow (w.heap.size + 1) 38 3 v' k (itsC l) ∧ Below (w.heap.size + 1) (w.alloc (.cells #[.int .i64 0, .int .i64 0] 28)) wr) (fun _ _ i _ => N - (intOf i).toNat)
  case atStart => exact ⟨0, 2, [], _, by omega, rfl, rfl, rfl, rfl, HS.out.2, (rdsC_nil _).symm, World.ownsRow_nil _ _ _ _, below_drawn (Below.refl _ _) _⟩
  case round =>
    obtain ⟨k, at', l, vv, hk, hlk, rfl, rfl, rfl, hat, hrel, hown, hbel⟩ := hrel
    have HR := hide hrel
    have HW := hide hown
    have HB := hide hbel
    have zr : w.heap.size + 1 ≤ wr.heap.size := by have := hbel.size; simpa using this
    clear hrel hown hbel
    by_cases hlt : k < N
    · have j1 : (k : Int) < (N : Int) := by omega
      have c1 := fun W => ritem_any s at' hat HS.out.1 W
      cases hrd : rd (s.data.toList.drop at') with
      | error e =>
        rw [hrd, riOut_err] at c1
        have hr : Hid (decB s.data.toList = ([], at', e)) := by
          have h1 := HR.out
          rw [show N - k = (N - k - 1) + 1 from by omega, rdsC_err _ _ _ _ hrd] at h1
          have h2 := HE.out _ _ h1
          rw [List.length_drop, HL.out, show s.size - (s.size - at') = at' from by omega] at h2
          exact h2
        have heb : (e == 0) = false := by rw [beq_eq_false_iff_ne]; rcases rd_err hrd with h | h <;> omega
        have c2 := fun W => fault_any (at' : Int) e W
        clear hrd HR HW
        go_wp2_with fail
        refine (c1 _).mono ?_
        rintro e' w2 ⟨rfl, hb2⟩
        have B2 : Hid (Below (w.heap.size + 1) (w.alloc (.cells #[.int .i64 0, .int .i64 0] 28)) w2) := HB.out.trans (hb2.mono zr)
        have z2 : w.heap.size + 1 ≤ w2.heap.size := by have := B2.out.size; simpa using this
        clear hb2 c1 HB
        go_wp2_with fail
        refine (c2 _).mono ?_
        rintro e' w3 ⟨rfl, hb3⟩
        obtain ⟨k0, k1, f0, f1, B3⟩ := cell_keep ((B2.out.alloc z2 _).trans (hb3.mono (by simp; omega)))
        have HB3 := hide B3
        clear hb3 c2 B2 B3
        go_wp2
        refine bodyPost_ret (v := .tuple #[.slice none 0 0, .agg #[.int .i64 (at' : Int), .int .i64 e]]) ?_ rfl ⟨_, [], at', e, hr.out, rfl, World.ownsRow_nil _ _ _ _, ?_⟩
        · simp [results, Tryd.results11, go_sem, k0, k1]
        · exact (HB3.out.setCell (by simp) _).setCell (by simp) _
      | ok q =>
        obtain ⟨x, r'⟩ := q
        rw [hrd, riOut_ok] at c1
        obtain ⟨ha, hm, hf⟩ := rd_ok hrd
        have hlen : (s.data.toList.drop at').length = ib x + r'.length := by rw [ha, List.length_append, oneB_length]
        rw [List.length_drop, HL.out] at hlen
        have hdr : s.data.toList.drop (at' + ib x) = r' := by
          rw [← List.drop_drop, ha, ← oneB_length]; exact List.drop_left
        have HR2 : Hid (rds N (s.data.toList.drop 2) = rdsC (l ++ [x]) (rds (N - (k + 1)) (s.data.toList.drop (at' + ib x)))) := by
          have h1 := HR.out
          rw [show N - k = (N - (k + 1)) + 1 from by omega, rdsC_ok _ _ _ _ _ hrd] at h1
          rw [hdr]; exact h1
        have hib : at' + ib x ≤ s.size := by omega
        have HX : Hid (itC x = [.bool x.t, .int .i64 x.n, .string x.s]) := rfl
        unfold itA at c1
        clear hrd HR ha hm hf hlen hdr
        generalize at' + ib x = y at *
        generalize x.t = xt at *
        generalize x.n = xn at *
        generalize x.s = xss at *
        go_wp2_with fail
        refine (c1 _).mono ?_
        rintro e' w2 ⟨rfl, hb2⟩
        have B2 : Hid (Below (w.heap.size + 1) (w.alloc (.cells #[.int .i64 0, .int .i64 0] 28)) w2) := HB.out.trans (hb2.mono zr)
        have z2 : w.heap.size + 1 ≤ w2.heap.size := by have := B2.out.size; simpa using this
        have W2 : Hid (w2.ownsRow (w.heap.size + 1) 38 3 vv k (itsC l)) := owns_below HW.out hb2
        clear hb2 c1 HW HB
        go_wp2_with (at_builtin; go_must (refine wpList_append_lies _ (by rfl) _ _ _ (by rfl) (w.heap.size + 1) 38 i0 _ 3 32 Tryd.underlying22 hi hz0 hz1 hz2 rfl (by omega) vv k _ (by rfl) ((W2.out.alloc _).alloc _) ⟨w2.heap.size + 1, 0, none⟩ 1 1 [.bool xt, .int .i64 xn, .string xss] (by rfl) (by rfl) (World.news_of_block (cs := #[.bool xt, .int .i64 xn, .string xss]) (t := 38) (fr := (0, 0)) (alloc2_of w2 _ _)) (by simp [Value.oneCell']) (by omega) (by unfold maxLen; omega) (by omega) (by simp; omega) (w2.heap.size + 1 + 1) (by simp) ?_; intro gg cap' w3 hown3 hgrow hat3 hlt3))
        go_roundw
        case rel => exact ⟨k + 1, y, l ++ [x], _, by omega, by rw [List.length_append, hlk]; rfl, by go_num, rfl, rfl, hib, HR2.out, by rw [itsC_append, show itsC [x] = itC x from List.append_nil _, HX.out]; exact hown3, ((B2.out.alloc z2 _).alloc (by simp; omega) _).grown hgrow (by simp; omega) (fun r hr => (W2.out.lt r hr).1)⟩
        case measure => simp [intOf]; omega
    · obtain rfl : k = N := by omega
      have hfin : rds k (s.data.toList.drop 2) = .ok (l, s.data.toList.drop at') := by
        have h1 := HR.out
        rw [Nat.sub_self, rds] at h1
        rw [h1]; show Except.ok (l ++ [], _) = _; rw [List.append_nil]
      clear HR HE
      by_cases hmo : at' < s.size
      · have hr : Hid (decB s.data.toList = ([], at', 31)) := by
          have h2 := HM.out _ _ hfin (fun h => by have := congrArg List.length h; rw [List.length_drop, HL.out, List.length_nil] at this; omega)
          rw [List.length_drop, HL.out, show s.size - (s.size - at') = at' from by omega] at h2
          exact h2
        have j3 : (at' : Int) < (s.size : Int) := by omega
        have c2 := fun W => fault_any (at' : Int) 31 W
        clear hfin HM HO hmo HW hat
        go_wp2_with fail
        refine (c2 _).mono ?_
        rintro e' w3 ⟨rfl, hb3⟩
        obtain ⟨k0, k1, f0, f1, B3⟩ := cell_keep (HB.out.trans (hb3.mono zr))
        have HB3 := hide B3
        clear hb3 c2 HB B3
        go_wp2
        refine bodyPost_ret (v := .tuple #[.slice none 0 0, .agg #[.int .i64 (at' : Int), .int .i64 31]]) ?_ rfl ⟨_, [], at', 31, hr.out, rfl, World.ownsRow_nil _ _ _ _, ?_⟩
        · simp [results, Tryd.results11, go_sem, k0, k1]
        · exact (HB3.out.setCell (by simp) _).setCell (by simp) _
      · have hr : Hid (decB s.data.toList = (l, 0, 0)) := by
          have hnil : s.data.toList.drop at' = [] := List.eq_nil_of_length_eq_zero (by rw [List.length_drop, HL.out]; omega)
          rw [hnil] at hfin
          exact HO.out _ hfin
        have j3 : ¬ (at' : Int) < (s.size : Int) := by omega
        obtain ⟨k0, k1, f0, f1, B3⟩ := cell_keep HB.out
        have HB3 := hide B3
        clear hfin HM HO hmo hat HB B3
        go_wp2
        refine bodyPost_ret (v := .tuple #[vv, .agg #[.int .i64 0, .int .i64 0]]) ?_ rfl ⟨vv, l, 0, 0, hr.out, rfl, ?_, ?_⟩
        · simp [results, Tryd.results11, go_sem, k0, k1]
        · rw [hlk]; exact owns_base (owns_set (owns_set HW.out _ _ (by omega) _) _ _ (by omega) _) (by omega)
        · exact (HB3.out.setCell (by simp) _).setCell (by simp) _
end Go.Proofs.YtelhfdhgcojmlaaDoor
