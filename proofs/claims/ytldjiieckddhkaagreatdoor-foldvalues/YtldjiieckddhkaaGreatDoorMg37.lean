/- DyW | DzW -/
import Derived.Test.YtldjiieckddhkaaGreatDoorMg36
import Derived.Test.YtldjiieckddhkaaGreatDoorMg11
namespace Go.Proofs.YtldjiieckddhkaaGreatDoor
open Go.RowKit Go.Sort
set_option maxRecDepth 100000 in
set_option maxHeartbeats 3200000 in
theorem two9_z (op : Int) (a b : Dv) (u v : Value) (w : World) (hA : NLst w u a.nums) (hB : NLst w v b.nums) (h0 : a.t = 0) (hl : a.nums.length + b.nums.length ≤ 1000) : Calls Tryz.prog 124 #[.int .i64 op, .agg #[.int .i64 a.t, u], .agg #[.int .i64 b.t, v]] w (DOut (twoD op a b) w) := by
  obtain ⟨ta, la⟩ := a
  obtain ⟨tb, lb⟩ := b
  dsimp only at hA hB hl h0 ⊢
  have HC : Hid (twoD op ⟨ta, la⟩ ⟨tb, lb⟩ = if ta = 0 ∧ tb = 0 then noneD op ⟨ta, la⟩ ⟨tb, lb⟩
    else if (ta ≠ 0 ∧ tb ≠ 0 ∧ ta ≠ tb) ∨ ((ta = 0 ∨ tb = 0) ∧ wholeB (max ta tb) = false) ∨ Four.has2 op (max ta tb) = false then .error 40
    else if (ta = 0 ∧ fitN la (max ta tb) = false) ∨ (tb = 0 ∧ fitN lb (max ta tb) = false) then .error 1
    else .ok (dT (Four.resN op (max ta tb)).1)) := rfl
  generalize twoD op ⟨ta, la⟩ ⟨tb, lb⟩ = C at *
  obtain ⟨ua, uc, rfl⟩ := hA.shape
  obtain ⟨va, vc, rfl⟩ := hB.shape
  obtain ⟨w0, hw0⟩ : ∃ w0, w0 = (((w.alloc (.cells #[.int .i64 ta, .slice ua la.length uc] 85)).alloc (.cells #[.int .i64 tb, .slice va lb.length vc] 85)).alloc (.cells #[.int .i64 0, .slice none 0 0] 85)) := ⟨_, rfl⟩
  have B0 : Hid (Below w.heap.size w w0) := by rw [hw0]; exact (((Below.refl _ _).alloc (Nat.le_refl _) _).alloc (by simp) _).alloc (by simp; omega) _
  have X2 : Hid (w0.heap[w.heap.size + 2]? = some (.cells #[.int .i64 0, .slice none 0 0] 85 (0, 0))) := by show _ = _; rw [hw0]; have := heap_alloc_new (((w.alloc (.cells #[.int .i64 ta, .slice ua la.length uc] 85)).alloc (.cells #[.int .i64 tb, .slice va lb.length vc] 85))) (.cells #[.int .i64 0, .slice none 0 0] 85); simpa using this
  have X1 : Hid (w0.heap[w.heap.size + 1]? = some (.cells #[.int .i64 tb, .slice va lb.length vc] 85 (0, 0))) := by
    show _ = _; rw [hw0, Lib.alloc_old _ _ _ (by simp)]; have := heap_alloc_new (w.alloc (.cells #[.int .i64 ta, .slice ua la.length uc] 85)) (.cells #[.int .i64 tb, .slice va lb.length vc] 85); simpa using this
  have X0 : Hid (w0.heap[w.heap.size]? = some (.cells #[.int .i64 ta, .slice ua la.length uc] 85 (0, 0))) := by
    show _ = _; rw [hw0, Lib.alloc_old _ _ _ (by simp; omega), Lib.alloc_old _ _ _ (by simp)]; exact heap_alloc_new w _
  have Z0 : Hid (w0.heap.size = w.heap.size + 3) := by show _ = _; rw [hw0]; simp
  have IA : Hid (NLst w0 (.slice ua la.length uc) la) := hA.on B0.out
  have IB : Hid (NLst w0 (.slice va lb.length vc) lb) := hB.on B0.out
  have HLA : Hid (la.length ≤ 1000 ∧ lb.length ≤ 1000) := ⟨by omega, by omega⟩
  have HLL := hide hl
  have HM : Hid (∀ (ts : Array TypeId) (t : TypeId) (W : World), (Builtin.max_ ts t #[.int .i64 ta, .int .i64 tb]).run Tryz.prog W = .ok (.int .i64 (max ta tb)) W) := fun ts t W => by
    rw [run_max_int2]; exact congrArg (fun z => Result.ok (Value.int .i64 z) W) (by split <;> omega)
  have m47 := fun W => whole_any (max ta tb) W
  have m131 := fun W => Four.has2_any op (max ta tb) W
  have m95 := fun W => Four.resR_any op (max ta tb) W
  have mA := fit_any (.slice ua la.length uc) la (max ta tb) w0 IA.out HLA.out.1
  have mB := fit_any (.slice va lb.length vc) lb (max ta tb) w0 IB.out HLA.out.2
  have m152 := none2_any op ⟨ta, la⟩ ⟨tb, lb⟩ (.slice ua la.length uc) (.slice va lb.length vc) w0 IA.out IB.out hl
  have DD : Hid (∀ (D : Except Int Dv), D = C → ∀ (e : Ending) (w' : World), DOut D w0 e w' → ∃ (t er : Int) (xa : Option Addr) (xn xc : Nat), e = .returned (.tuple #[.agg #[.int .i64 t, .slice xa xn xc], .int .i64 er]) ∧ w'.heap[w.heap.size + 2]? = some (.cells #[.int .i64 0, .slice none 0 0] 85 (0, 0)) ∧
      ∀ x y, DOut C w (.returned (.tuple #[.agg #[.int .i64 t, .slice xa xn xc], .int .i64 er])) ((w'.setCell ⟨w.heap.size + 2, 0, none⟩ x).setCell ⟨w.heap.size + 2, 1, none⟩ y)) := by
    rintro D rfl e w' ⟨⟨t, er, xa, xn, xc, rfl, hm⟩, hb⟩
    have q2 := (hb.block (w.heap.size + 2) (by rw [Z0.out]; omega)).trans X2.out
    refine ⟨t, er, xa, xn, xc, rfl, q2, fun x y => ⟨⟨t, er, xa, xn, xc, rfl, ?_⟩, set2 (B0.out.trans (hb.mono B0.out.size)) (by omega) _ _⟩⟩
    cases D with
    | error z => exact ⟨hm.1, hm.2.1, hm.2.2.1, hm.2.2.2.set q2 (by decide) _ _⟩
    | ok d => exact ⟨hm.1, hm.2.1, hm.2.2.set q2 (by decide) _ _⟩
  have BB : Hid (∀ o1 o2 o3, Below w.heap.size w (((w.alloc o1).alloc o2).alloc o3)) := fun o1 o2 o3 => (((Below.refl w.heap.size w).alloc (Nat.le_refl _) o1).alloc (by simp) o2).alloc (by simp; omega) o3
  clear hA hB hl IA IB HLA HLL X0 X1 X2 Z0 B0
  subst hw0
  generalize la.length = n1 at *
  generalize lb.length = n2 at *
  generalize max ta tb = M at *
  have ha := h0
  · clear h0; subst ha
    by_cases hb : tb = 0
    · subst hb
      have HE : Hid (noneD op ⟨0, la⟩ ⟨0, lb⟩ = C) := by show _ = _; rw [HC.out, if_pos ⟨rfl, rfl⟩]
      clear HC m47 m131 m95 mA mB HM BB
      go_enter Tryz.func124, Tryz.ntmps124
      go_wp2_with fail
      refine m152.mono ?_
      rintro e w1 hD
      obtain ⟨t, er, xa, xn, xc, rfl, q2, hE⟩ := DD.out _ HE.out _ _ hD
      have HEND := hide hE
      have r0 : w1.cell? ⟨w.heap.size + 2, 0, none⟩ = some (.int .i64 0) := by rw [Lib.cell_of_heap q2]; rfl
      have r1 : w1.cell? ⟨w.heap.size + 2, 1, none⟩ = some (.slice none 0 0) := by rw [Lib.cell_of_heap q2]; rfl
      have rf : ∀ j, w1.frozen? ⟨w.heap.size + 2, j, none⟩ = false := fun j => Lib.frozen_of_heap q2 j
      clear DD m152 hD q2 hE
      go_wp2
      refine bodyPost_ret (v := .tuple #[.agg #[.int .i64 t, .slice xa xn xc], .int .i64 er]) (by simp [results, Tryz.results124, go_sem, *]) rfl ?_
      exact HEND.out _ _
    · have hb' : (tb == 0) = false := by rw [beq_eq_false_iff_ne]; exact hb
      have HM' := HM.out
      cases hw : wholeB M
      · rw [hw] at m47
        have HE : Hid (C = .error 40) := by show _ = _; rw [HC.out, if_neg (fun h => hb h.2), if_pos (.inr (.inl ⟨.inl rfl, hw⟩))]
        clear HC DD m152 hb hw mA mB m131 m95
        go_enter Tryz.func124, Tryz.ntmps124
        go_wp2_with (first | (go_at_call 47; refine (m47 _).mono ?_; rintro e w' ⟨rfl, rfl⟩))
        refine bodyPost_ret (v := .tuple #[.agg #[.int .i64 0, .slice none 0 0], .int .i64 40]) (by simp [results, Tryz.results124, go_sem, *]) rfl ⟨⟨0, 40, _, _, _, rfl, ?_⟩, ?_⟩
        · rw [HE.out]; exact ⟨rfl, by decide, rfl, NLst.nil _⟩
        · first | exact BB.out _ _ _ | exact set2 (BB.out _ _ _) (by omega) _ _
      · rw [hw] at m47
        cases hf : Four.has2 op M
        · rw [hf] at m131
          have HE : Hid (C = .error 40) := by show _ = _; rw [HC.out, if_neg (fun h => hb h.2), if_pos (.inr (.inr hf))]
          clear HC DD m152 hb hw hf mA mB m95
          go_enter Tryz.func124, Tryz.ntmps124
          go_wp2_with (first | (go_at_call 47; refine (m47 _).mono ?_; rintro e w' ⟨rfl, rfl⟩) | (go_at_call 131; refine (m131 _).mono ?_; rintro e w' ⟨rfl, rfl⟩))
          refine bodyPost_ret (v := .tuple #[.agg #[.int .i64 0, .slice none 0 0], .int .i64 40]) (by simp [results, Tryz.results124, go_sem, *]) rfl ⟨⟨0, 40, _, _, _, rfl, ?_⟩, ?_⟩
          · rw [HE.out]; exact ⟨rfl, by decide, rfl, NLst.nil _⟩
          · first | exact BB.out _ _ _ | exact set2 (BB.out _ _ _) (by omega) _ _
        · rw [hf] at m131
          have hno : ¬ (((0 : Int) ≠ 0 ∧ tb ≠ 0 ∧ (0 : Int) ≠ tb) ∨ (((0 : Int) = 0 ∨ tb = 0) ∧ wholeB M = false) ∨ Four.has2 op M = false) := by rw [hw, hf]; intro h; rcases h with h | h | h; exact h.1 rfl; exact absurd h.2 (by decide); exact absurd h (by decide)
          cases hg : fitN la M
          · rw [hg] at mA
            have HE : Hid (C = .error 1) := by show _ = _; rw [HC.out, if_neg (fun h => hb h.2), if_neg hno, if_pos (.inl ⟨rfl, hg⟩)]
            clear HC DD m152 hb hw hf hg hno mB m95
            go_enter Tryz.func124, Tryz.ntmps124
            go_wp2_with (first | (go_at_call 47; refine (m47 _).mono ?_; rintro e w' ⟨rfl, rfl⟩) | (go_at_call 131; refine (m131 _).mono ?_; rintro e w' ⟨rfl, rfl⟩) | (go_at_call 48; refine mA.mono ?_; rintro e w' ⟨rfl, rfl⟩))
            refine bodyPost_ret (v := .tuple #[.agg #[.int .i64 0, .slice none 0 0], .int .i64 1]) (by simp [results, Tryz.results124, go_sem, *]) rfl ⟨⟨0, 1, _, _, _, rfl, ?_⟩, ?_⟩
            · rw [HE.out]; exact ⟨rfl, by decide, rfl, NLst.nil _⟩
            · first | exact BB.out _ _ _ | exact set2 (BB.out _ _ _) (by omega) _ _
          · rw [hg] at mA
            have HE : Hid (C = .ok (dT (Four.resN op M).1)) := by show _ = _; rw [HC.out, if_neg (fun h => hb h.2), if_neg hno, if_neg (by rw [hg]; intro h; rcases h with h | h; exact absurd h.2 (by decide); exact hb h.1)]
            generalize (Four.resN op M).1 = R at *
            generalize (Four.resN op M).2 = R2 at *
            clear HC DD m152 hb hw hf hg hno mB
            go_enter Tryz.func124, Tryz.ntmps124
            go_wp2_with (first | (go_at_call 47; refine (m47 _).mono ?_; rintro e w' ⟨rfl, rfl⟩) | (go_at_call 131; refine (m131 _).mono ?_; rintro e w' ⟨rfl, rfl⟩) | (go_at_call 48; refine mA.mono ?_; rintro e w' ⟨rfl, rfl⟩) | (go_at_call 95; refine (m95 _).mono ?_; rintro e w' ⟨rfl, rfl⟩))
            refine bodyPost_ret (v := .tuple #[.agg #[.int .i64 R, .slice none 0 0], .int .i64 0]) (by simp [results, Tryz.results124, go_sem, *]) rfl ⟨⟨R, 0, _, _, _, rfl, ?_⟩, ?_⟩
            · rw [HE.out]; exact ⟨rfl, rfl, NLst.nil _⟩
            · first | exact BB.out _ _ _ | exact set2 (BB.out _ _ _) (by omega) _ _
end Go.Proofs.YtldjiieckddhkaaGreatDoor
namespace Go.Proofs.YtldjiieckddhkaaGreatDoor
open Go.RowKit Go.Sort
set_option maxRecDepth 100000 in
set_option maxHeartbeats 3200000 in
theorem two9_n (op : Int) (a b : Dv) (u v : Value) (w : World) (hA : NLst w u a.nums) (hB : NLst w v b.nums) (h0 : a.t ≠ 0) (hl : a.nums.length + b.nums.length ≤ 1000) : Calls Tryz.prog 124 #[.int .i64 op, .agg #[.int .i64 a.t, u], .agg #[.int .i64 b.t, v]] w (DOut (twoD op a b) w) := by
  obtain ⟨ta, la⟩ := a
  obtain ⟨tb, lb⟩ := b
  dsimp only at hA hB hl h0 ⊢
  have HC : Hid (twoD op ⟨ta, la⟩ ⟨tb, lb⟩ = if ta = 0 ∧ tb = 0 then noneD op ⟨ta, la⟩ ⟨tb, lb⟩
    else if (ta ≠ 0 ∧ tb ≠ 0 ∧ ta ≠ tb) ∨ ((ta = 0 ∨ tb = 0) ∧ wholeB (max ta tb) = false) ∨ Four.has2 op (max ta tb) = false then .error 40
    else if (ta = 0 ∧ fitN la (max ta tb) = false) ∨ (tb = 0 ∧ fitN lb (max ta tb) = false) then .error 1
    else .ok (dT (Four.resN op (max ta tb)).1)) := rfl
  generalize twoD op ⟨ta, la⟩ ⟨tb, lb⟩ = C at *
  obtain ⟨ua, uc, rfl⟩ := hA.shape
  obtain ⟨va, vc, rfl⟩ := hB.shape
  obtain ⟨w0, hw0⟩ : ∃ w0, w0 = (((w.alloc (.cells #[.int .i64 ta, .slice ua la.length uc] 85)).alloc (.cells #[.int .i64 tb, .slice va lb.length vc] 85)).alloc (.cells #[.int .i64 0, .slice none 0 0] 85)) := ⟨_, rfl⟩
  have B0 : Hid (Below w.heap.size w w0) := by rw [hw0]; exact (((Below.refl _ _).alloc (Nat.le_refl _) _).alloc (by simp) _).alloc (by simp; omega) _
  have X2 : Hid (w0.heap[w.heap.size + 2]? = some (.cells #[.int .i64 0, .slice none 0 0] 85 (0, 0))) := by show _ = _; rw [hw0]; have := heap_alloc_new (((w.alloc (.cells #[.int .i64 ta, .slice ua la.length uc] 85)).alloc (.cells #[.int .i64 tb, .slice va lb.length vc] 85))) (.cells #[.int .i64 0, .slice none 0 0] 85); simpa using this
  have X1 : Hid (w0.heap[w.heap.size + 1]? = some (.cells #[.int .i64 tb, .slice va lb.length vc] 85 (0, 0))) := by
    show _ = _; rw [hw0, Lib.alloc_old _ _ _ (by simp)]; have := heap_alloc_new (w.alloc (.cells #[.int .i64 ta, .slice ua la.length uc] 85)) (.cells #[.int .i64 tb, .slice va lb.length vc] 85); simpa using this
  have X0 : Hid (w0.heap[w.heap.size]? = some (.cells #[.int .i64 ta, .slice ua la.length uc] 85 (0, 0))) := by
    show _ = _; rw [hw0, Lib.alloc_old _ _ _ (by simp; omega), Lib.alloc_old _ _ _ (by simp)]; exact heap_alloc_new w _
  have Z0 : Hid (w0.heap.size = w.heap.size + 3) := by show _ = _; rw [hw0]; simp
  have IA : Hid (NLst w0 (.slice ua la.length uc) la) := hA.on B0.out
  have IB : Hid (NLst w0 (.slice va lb.length vc) lb) := hB.on B0.out
  have HLA : Hid (la.length ≤ 1000 ∧ lb.length ≤ 1000) := ⟨by omega, by omega⟩
  have HLL := hide hl
  have HM : Hid (∀ (ts : Array TypeId) (t : TypeId) (W : World), (Builtin.max_ ts t #[.int .i64 ta, .int .i64 tb]).run Tryz.prog W = .ok (.int .i64 (max ta tb)) W) := fun ts t W => by
    rw [run_max_int2]; exact congrArg (fun z => Result.ok (Value.int .i64 z) W) (by split <;> omega)
  have m47 := fun W => whole_any (max ta tb) W
  have m131 := fun W => Four.has2_any op (max ta tb) W
  have m95 := fun W => Four.resR_any op (max ta tb) W
  have mA := fit_any (.slice ua la.length uc) la (max ta tb) w0 IA.out HLA.out.1
  have mB := fit_any (.slice va lb.length vc) lb (max ta tb) w0 IB.out HLA.out.2
  have m152 := none2_any op ⟨ta, la⟩ ⟨tb, lb⟩ (.slice ua la.length uc) (.slice va lb.length vc) w0 IA.out IB.out hl
  have DD : Hid (∀ (D : Except Int Dv), D = C → ∀ (e : Ending) (w' : World), DOut D w0 e w' → ∃ (t er : Int) (xa : Option Addr) (xn xc : Nat), e = .returned (.tuple #[.agg #[.int .i64 t, .slice xa xn xc], .int .i64 er]) ∧ w'.heap[w.heap.size + 2]? = some (.cells #[.int .i64 0, .slice none 0 0] 85 (0, 0)) ∧
      ∀ x y, DOut C w (.returned (.tuple #[.agg #[.int .i64 t, .slice xa xn xc], .int .i64 er])) ((w'.setCell ⟨w.heap.size + 2, 0, none⟩ x).setCell ⟨w.heap.size + 2, 1, none⟩ y)) := by
    rintro D rfl e w' ⟨⟨t, er, xa, xn, xc, rfl, hm⟩, hb⟩
    have q2 := (hb.block (w.heap.size + 2) (by rw [Z0.out]; omega)).trans X2.out
    refine ⟨t, er, xa, xn, xc, rfl, q2, fun x y => ⟨⟨t, er, xa, xn, xc, rfl, ?_⟩, set2 (B0.out.trans (hb.mono B0.out.size)) (by omega) _ _⟩⟩
    cases D with
    | error z => exact ⟨hm.1, hm.2.1, hm.2.2.1, hm.2.2.2.set q2 (by decide) _ _⟩
    | ok d => exact ⟨hm.1, hm.2.1, hm.2.2.set q2 (by decide) _ _⟩
  have BB : Hid (∀ o1 o2 o3, Below w.heap.size w (((w.alloc o1).alloc o2).alloc o3)) := fun o1 o2 o3 => (((Below.refl w.heap.size w).alloc (Nat.le_refl _) o1).alloc (by simp) o2).alloc (by simp; omega) o3
  clear hA hB hl IA IB HLA HLL X0 X1 X2 Z0 B0
  subst hw0
  generalize la.length = n1 at *
  generalize lb.length = n2 at *
  generalize max ta tb = M at *
  have ha : ¬ ta = 0 := h0
  clear h0
  · have ha' : (ta == 0) = false := by rw [beq_eq_false_iff_ne]; exact ha
    have ha1 : (ta != 0) = true := by rw [bne_iff_ne]; exact ha
    have ha2 : decide (ta = 0) = false := decide_eq_false ha
    by_cases hb : tb = 0
    · subst hb
      have HM' := HM.out
      cases hw : wholeB M
      · rw [hw] at m47
        have HE : Hid (C = .error 40) := by show _ = _; rw [HC.out, if_neg (fun h => ha h.1), if_pos (.inr (.inl ⟨.inr rfl, hw⟩))]
        clear HC DD m152 hw mA mB m131 m95
        go_enter Tryz.func124, Tryz.ntmps124
        go_wp2_with (first | (go_at_call 47; refine (m47 _).mono ?_; rintro e w' ⟨rfl, rfl⟩))
        refine bodyPost_ret (v := .tuple #[.agg #[.int .i64 0, .slice none 0 0], .int .i64 40]) (by simp [results, Tryz.results124, go_sem, *]) rfl ⟨⟨0, 40, _, _, _, rfl, ?_⟩, ?_⟩
        · rw [HE.out]; exact ⟨rfl, by decide, rfl, NLst.nil _⟩
        · first | exact BB.out _ _ _ | exact set2 (BB.out _ _ _) (by omega) _ _
      · rw [hw] at m47
        cases hf : Four.has2 op M
        · rw [hf] at m131
          have HE : Hid (C = .error 40) := by show _ = _; rw [HC.out, if_neg (fun h => ha h.1), if_pos (.inr (.inr hf))]
          clear HC DD m152 hw hf mA mB m95
          go_enter Tryz.func124, Tryz.ntmps124
          go_wp2_with (first | (go_at_call 47; refine (m47 _).mono ?_; rintro e w' ⟨rfl, rfl⟩) | (go_at_call 131; refine (m131 _).mono ?_; rintro e w' ⟨rfl, rfl⟩))
          refine bodyPost_ret (v := .tuple #[.agg #[.int .i64 0, .slice none 0 0], .int .i64 40]) (by simp [results, Tryz.results124, go_sem, *]) rfl ⟨⟨0, 40, _, _, _, rfl, ?_⟩, ?_⟩
          · rw [HE.out]; exact ⟨rfl, by decide, rfl, NLst.nil _⟩
          · first | exact BB.out _ _ _ | exact set2 (BB.out _ _ _) (by omega) _ _
        · rw [hf] at m131
          have hno : ¬ ((ta ≠ 0 ∧ (0 : Int) ≠ 0 ∧ ta ≠ 0) ∨ ((ta = 0 ∨ (0 : Int) = 0) ∧ wholeB M = false) ∨ Four.has2 op M = false) := by rw [hw, hf]; intro h; rcases h with h | h | h; exact h.2.1 rfl; exact absurd h.2 (by decide); exact absurd h (by decide)
          cases hg : fitN lb M
          · rw [hg] at mB
            have HE : Hid (C = .error 1) := by show _ = _; rw [HC.out, if_neg (fun h => ha h.1), if_neg hno, if_pos (.inr ⟨rfl, hg⟩)]
            clear HC DD m152 hw hf hg hno mA m95
            go_enter Tryz.func124, Tryz.ntmps124
            go_wp2_with (first | (go_at_call 47; refine (m47 _).mono ?_; rintro e w' ⟨rfl, rfl⟩) | (go_at_call 131; refine (m131 _).mono ?_; rintro e w' ⟨rfl, rfl⟩) | (go_at_call 48; refine mB.mono ?_; rintro e w' ⟨rfl, rfl⟩))
            refine bodyPost_ret (v := .tuple #[.agg #[.int .i64 0, .slice none 0 0], .int .i64 1]) (by simp [results, Tryz.results124, go_sem, *]) rfl ⟨⟨0, 1, _, _, _, rfl, ?_⟩, ?_⟩
            · rw [HE.out]; exact ⟨rfl, by decide, rfl, NLst.nil _⟩
            · first | exact BB.out _ _ _ | exact set2 (BB.out _ _ _) (by omega) _ _
          · rw [hg] at mB
            have HE : Hid (C = .ok (dT (Four.resN op M).1)) := by show _ = _; rw [HC.out, if_neg (fun h => ha h.1), if_neg hno, if_neg (by rw [hg]; intro h; rcases h with h | h; exact ha h.1; exact absurd h.2 (by decide))]
            generalize (Four.resN op M).1 = R at *
            generalize (Four.resN op M).2 = R2 at *
            clear HC DD m152 hw hf hg hno mA
            go_enter Tryz.func124, Tryz.ntmps124
            go_wp2_with (first | (go_at_call 47; refine (m47 _).mono ?_; rintro e w' ⟨rfl, rfl⟩) | (go_at_call 131; refine (m131 _).mono ?_; rintro e w' ⟨rfl, rfl⟩) | (go_at_call 48; refine mB.mono ?_; rintro e w' ⟨rfl, rfl⟩) | (go_at_call 95; refine (m95 _).mono ?_; rintro e w' ⟨rfl, rfl⟩))
            refine bodyPost_ret (v := .tuple #[.agg #[.int .i64 R, .slice none 0 0], .int .i64 0]) (by simp [results, Tryz.results124, go_sem, *]) rfl ⟨⟨R, 0, _, _, _, rfl, ?_⟩, ?_⟩
            · rw [HE.out]; exact ⟨rfl, rfl, NLst.nil _⟩
            · first | exact BB.out _ _ _ | exact set2 (BB.out _ _ _) (by omega) _ _
    · have hb' : (tb == 0) = false := by rw [beq_eq_false_iff_ne]; exact hb
      have hb1 : (tb != 0) = true := by rw [bne_iff_ne]; exact hb
      have hb2 : decide (tb = 0) = false := decide_eq_false hb
      have HM' := HM.out
      by_cases he : ta = tb
      · have he' : (ta != tb) = false := by rw [he]; simp
        cases hf : Four.has2 op M
        · rw [hf] at m131
          have HE : Hid (C = .error 40) := by show _ = _; rw [HC.out, if_neg (fun h => ha h.1), if_pos (.inr (.inr hf))]
          clear HC DD m152 he hf mA mB m95 m47
          go_enter Tryz.func124, Tryz.ntmps124
          go_wp2_with (first | (go_at_call 131; refine (m131 _).mono ?_; rintro e w' ⟨rfl, rfl⟩))
          refine bodyPost_ret (v := .tuple #[.agg #[.int .i64 0, .slice none 0 0], .int .i64 40]) (by simp [results, Tryz.results124, go_sem, *]) rfl ⟨⟨0, 40, _, _, _, rfl, ?_⟩, ?_⟩
          · rw [HE.out]; exact ⟨rfl, by decide, rfl, NLst.nil _⟩
          · first | exact BB.out _ _ _ | exact set2 (BB.out _ _ _) (by omega) _ _
        · rw [hf] at m131
          have hno : ¬ ((ta ≠ 0 ∧ tb ≠ 0 ∧ ta ≠ tb) ∨ ((ta = 0 ∨ tb = 0) ∧ wholeB M = false) ∨ Four.has2 op M = false) := by rw [hf]; intro h; rcases h with h | h | h; exact h.2.2 he; exact h.1.elim ha hb; exact absurd h (by decide)
          have HE : Hid (C = .ok (dT (Four.resN op M).1)) := by show _ = _; rw [HC.out, if_neg (fun h => ha h.1), if_neg hno, if_neg (by intro h; rcases h with h | h; exact ha h.1; exact hb h.1)]
          generalize (Four.resN op M).1 = R at *
          generalize (Four.resN op M).2 = R2 at *
          clear HC DD m152 he hf hno mA mB m47
          go_enter Tryz.func124, Tryz.ntmps124
          go_wp2_with (first | (go_at_call 131; refine (m131 _).mono ?_; rintro e w' ⟨rfl, rfl⟩) | (go_at_call 95; refine (m95 _).mono ?_; rintro e w' ⟨rfl, rfl⟩))
          refine bodyPost_ret (v := .tuple #[.agg #[.int .i64 R, .slice none 0 0], .int .i64 0]) (by simp [results, Tryz.results124, go_sem, *]) rfl ⟨⟨R, 0, _, _, _, rfl, ?_⟩, ?_⟩
          · rw [HE.out]; exact ⟨rfl, rfl, NLst.nil _⟩
          · first | exact BB.out _ _ _ | exact set2 (BB.out _ _ _) (by omega) _ _
      · have he' : (ta != tb) = true := by rw [bne_iff_ne]; exact he
        have he2 : decide (ta = tb) = false := decide_eq_false he
        have HE : Hid (C = .error 40) := by show _ = _; rw [HC.out, if_neg (fun h => ha h.1), if_pos (.inl ⟨ha, hb, he⟩)]
        clear HC DD m152 he mA mB m95 m47 m131
        go_enter Tryz.func124, Tryz.ntmps124
        go_wp2
        refine bodyPost_ret (v := .tuple #[.agg #[.int .i64 0, .slice none 0 0], .int .i64 40]) (by simp [results, Tryz.results124, go_sem, *]) rfl ⟨⟨0, 40, _, _, _, rfl, ?_⟩, ?_⟩
        · rw [HE.out]; exact ⟨rfl, by decide, rfl, NLst.nil _⟩
        · first | exact BB.out _ _ _ | exact set2 (BB.out _ _ _) (by omega) _ _
theorem two9_any (op : Int) (a b : Dv) (u v : Value) (w : World) (hA : NLst w u a.nums) (hB : NLst w v b.nums) (hl : a.nums.length + b.nums.length ≤ 1000) : Calls Tryz.prog 124 #[.int .i64 op, .agg #[.int .i64 a.t, u], .agg #[.int .i64 b.t, v]] w (DOut (twoD op a b) w) := by
  by_cases h : a.t = 0
  · exact two9_z op a b u v w hA hB h hl
  · exact two9_n op a b u v w hA hB h hl
end Go.Proofs.YtldjiieckddhkaaGreatDoor
