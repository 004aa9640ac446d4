/- code: callsBlock. | code: ruleOf. -/
import Derived.Test.YtlckedionmgjjaaDoorMg10
import Derived.Deep.QuietTactic
import Derived.Laws.BitsLemmas
import Derived.Test.YtlckedionmgjjaaDoorMg4
namespace Go.Proofs.YtlckedionmgjjaaDoor
open Go.RowKit
theorem eq_next {l m : List Int} {k : Nat} {x : Int} (h : l.take k = m.take k) (h1 : l[k]? = some x) (h2 : m[k]? = some x) : l.take (k + 1) = m.take (k + 1) := by
  rw [List.take_add_one, List.take_add_one, h, h1, h2]
set_option maxRecDepth 100000 in
set_option maxHeartbeats 3200000 in
theorem block_any (nm ta fv iv ov cv : Value) (ty : List Int) (i : Ins) (w : World) (hT : ILst w ta ty) (hn : ty.length ≤ 1024) : Calls Tryd.prog 54 #[.agg #[nm, ta, fv, iv, ov, cv], inA i] w fun e w' => e = .returned (.bool (blkB ty i.a i.b)) ∧ Below w.heap.size w w' := by
  obtain ⟨op, a, b, n⟩ := i
  have E : Hid (blkB ty a b = (kindOk a && (fromB ty.length b ((fldK a).length : Int) && ((ty.drop b.toNat).take (fldK a).length == fldT a)))) := rfl
  have c1 : Hid (∀ W, Below w.heap.size w W → Calls Tryd.prog 72 #[.agg #[nm, ta, fv, iv, ov, cv], .int .i64 b, .int .i64 ((fldK a).length : Int)] W fun e w' => e = .returned (.bool (fromB ty.length b ((fldK a).length : Int))) ∧ Below W.heap.size W w') := fun W hb => thereFrom_any nm ta fv iv ov cv ty b _ W (hT.on hb) hn
  show Calls Tryd.prog 54 #[.agg #[nm, ta, fv, iv, ov, cv], inA ⟨op, a, b, n⟩] w fun e w' => e = .returned (.bool (blkB ty a b)) ∧ Below w.heap.size w w'
  unfold inA
  have HB2 : Hid (∀ A B, Below w.heap.size w ((w.alloc A).alloc B)) := bw2 w
  by_cases hk : 1 ≤ a ∧ a ≤ 10
  · have m1 : Hid (∀ W, Calls Tryd.prog 76 #[.int .i64 a] W fun e w' => (∃ v, e = .returned (.tuple #[v, .int .i64 0]) ∧ FLst w' v (fldK a)) ∧ Below W.heap.size W w') := fun W => fields_ok a hk W
    have h6 := fldK_len a
    rw [(kindOk_iff a).2 hk, Bool.true_and] at E
    have hft : Hid (∀ k, (fldT a)[k]? = ((fldK a)[k]?).map Prod.fst) := fun k => by unfold fldT; rw [List.getElem?_map]
    have hfl : Hid ((fldT a).length = (fldK a).length) := by show _ = _; unfold fldT; rw [List.length_map]
    obtain ⟨aa, ab, aoff, acap, rfl, hA, hI⟩ := hT
    generalize blkB ty a b = R at *
    generalize fldT a = ft at *
    generalize fldK a = fl at *
    cases hf : fromB ty.length b (fl.length : Int) with
    | false =>
      rw [hf] at c1 E
      have HE : Hid (R = false) := by show _ = _; rw [E.out]; rfl
      clear E hA hI hf hft hfl
      have m1' : Hid (∀ W, Calls Tryd.prog 76 #[.int .i64 a] W fun e w' => (∃ fa fcap, e = .returned (.tuple #[.slice fa fl.length fcap, .int .i64 0])) ∧ Below W.heap.size W w') := fun W => by
        refine (m1.out W).mono ?_
        rintro e w' ⟨⟨v, rfl, fa, fb, fcap, rfl, h1, h2⟩, hb⟩
        exact ⟨⟨fa, fcap, rfl⟩, hb⟩
      clear m1
      generalize ty.length = m at *
      generalize fl.length = f at *
      go_enter Tryd.func54, Tryd.ntmps54
      go_wp2_with (first | (go_at_call 76; refine (m1'.out _).mono ?_; rintro e w1 ⟨⟨fa, fcap, rfl⟩, b1⟩; have B1 := hide ((HB2.out _ _).trans (b1.mono (by simp; omega))); have q0 := (b1.cell (p := ⟨w.heap.size, 0, none⟩) (by simp; omega)); have q1 := (b1.cell (p := ⟨w.heap.size, 1, none⟩) (by simp; omega)); have q2 := (b1.cell (p := ⟨w.heap.size, 2, none⟩) (by simp; omega)); have q3 := (b1.cell (p := ⟨w.heap.size, 3, none⟩) (by simp; omega)); have q4 := (b1.cell (p := ⟨w.heap.size, 4, none⟩) (by simp; omega)); have q5 := (b1.cell (p := ⟨w.heap.size, 5, none⟩) (by simp; omega)); have q6 := (b1.cell (p := ⟨w.heap.size + 1, 2, none⟩) (by simp)); clear b1; simp [go_sem] at q0 q1 q2 q3 q4 q5 q6) | (go_at_call 72; refine (c1.out _ B1.out).mono ?_; rintro e w2 ⟨rfl, b2⟩; have B2 := hide (B1.out.trans (b2.mono B1.out.size)); clear b2))
      go_ret
      exact ⟨ret_b HE.out.symm, B2.out⟩
    | true =>
      rw [hf] at c1 E
      have hh : 0 ≤ b ∧ b < (ty.length : Int) ∧ (fl.length : Int) ≤ (ty.length : Int) - b := by
        unfold fromB inB at hf
        simp only [Bool.and_eq_true, decide_eq_true_eq] at hf
        omega
      obtain ⟨hb0, hb1, hb2⟩ := hh
      obtain ⟨p, rfl⟩ : ∃ p : Nat, b = (p : Int) := ⟨b.toNat, by omega⟩
      obtain ⟨hab, rfl⟩ := hA (by omega)
      have HE : Hid (R = ((ty.drop p).take fl.length == ft)) := by show _ = _; rw [E.out]; rfl
      have HG : Hid (∀ k, k < fl.length → ∃ x, ((ty.drop p).take fl.length)[k]? = some x ∧ w.cell? ⟨ab, aoff + p + k, none⟩ = some (.int .i64 x)) := fun k hk => by
        obtain ⟨x, hx⟩ : ∃ x, ty[p + k]? = some x := ⟨_, List.getElem?_eq_getElem (by omega)⟩
        exact ⟨x, by rw [List.getElem?_take_of_lt hk, List.getElem?_drop]; exact hx, by rw [Nat.add_assoc]; exact hI _ _ hx⟩
      have HL : Hid (((ty.drop p).take fl.length).length = fl.length) := by show _ = _; rw [List.length_take, List.length_drop]; omega
      have m1' : Hid (∀ W, Calls Tryd.prog 76 #[.int .i64 a] W fun e w' => (∃ fa fb fcap, e = .returned (.tuple #[.slice fa fl.length fcap, .int .i64 0]) ∧ (0 < fl.length → fb < w'.heap.size ∧ fa = some ⟨fb, 0, none⟩) ∧ ∀ k r, fl[k]? = some r → ∃ s, w'.cell? ⟨fb, k * 3, none⟩ = some (.string s) ∧ w'.cell? ⟨fb, k * 3 + 1, none⟩ = some (.int .i64 r.1) ∧ w'.cell? ⟨fb, k * 3 + 2, none⟩ = some (.bool r.2)) ∧ Below W.heap.size W w') := fun W => by
        refine (m1.out W).mono ?_
        rintro e w' ⟨⟨v, rfl, fa, fb, fcap, rfl, h1, h2⟩, hb⟩
        exact ⟨⟨fa, fb, fcap, rfl, h1, h2⟩, hb⟩
      have HGF : Hid (∀ k, k < fl.length → ∃ r, fl[k]? = some r) := fun k hk => ⟨_, List.getElem?_eq_getElem hk⟩
      clear E hA hI hf m1
      generalize (ty.drop p).take fl.length = L at *
      generalize ty.length = m at *
      generalize fl.length = f at *
      have n1 : (m : Int) ≤ 1024 := by omega
      have f0 : (0 : Int) ≤ (f : Int) := by omega
      go_enter Tryd.func54, Tryd.ntmps54
      go_wp2_with (first | (go_at_call 76; go_loud (refine (m1'.out _).mono ?_; rintro e w1 ⟨⟨fa, fb, fcap, rfl, hfA, hfI⟩, b1⟩; have HFA := hide hfA; have HFI := hide hfI; clear hfA hfI; have B1 := hide ((HB2.out _ _).trans (b1.mono (by simp; omega))); have q0 := (b1.cell (p := ⟨w.heap.size, 0, none⟩) (by simp; omega)); have q1 := (b1.cell (p := ⟨w.heap.size, 1, none⟩) (by simp; omega)); have q2 := (b1.cell (p := ⟨w.heap.size, 2, none⟩) (by simp; omega)); have q3 := (b1.cell (p := ⟨w.heap.size, 3, none⟩) (by simp; omega)); have q4 := (b1.cell (p := ⟨w.heap.size, 4, none⟩) (by simp; omega)); have q5 := (b1.cell (p := ⟨w.heap.size, 5, none⟩) (by simp; omega)); have q6 := (b1.cell (p := ⟨w.heap.size + 1, 2, none⟩) (by simp)); have L1 : w.heap.size + 1 < w1.heap.size := (by have := b1.size; simp at this; omega); clear b1; simp [go_sem] at q0 q1 q2 q3 q4 q5 q6)) | (go_at_call 72; go_loud (refine (c1.out _ B1.out).mono ?_; rintro e w2 ⟨rfl, b2⟩; have B2 := hide b2; have BB2 := hide (B1.out.trans (b2.mono B1.out.size)); have p1 := (b2.cell (p := ⟨w.heap.size, 1, none⟩) (by show w.heap.size < _; omega)).trans q1; have p6 := (b2.cell (p := ⟨w.heap.size + 1, 2, none⟩) L1).trans q6; have L2 := b2.size; clear b2 q0 q1 q2 q3 q4 q5 q6)))
      have P1 := hide p1
      have P6 := hide p6
      clear p1 p6
      go_loopw [28] (fun i wr => ∃ k : Nat, k ≤ f ∧ i = .int .i64 (k : Int) ∧ Hid (L.take k = ft.take k ∧ Below w2.heap.size w2 wr)) (fun i _ => f - (intOf i).toNat)
      case atStart => exact ⟨0, by omega, rfl, rfl, Below.refl _ _⟩
      case round =>
        obtain ⟨k, hk, rfl, hh⟩ := hrel
        obtain ⟨ha, hw⟩ := hh.out
        have HA := hide ha
        have HW := hide hw
        clear hh ha hw
        have k0 : (0 : Int) ≤ (k : Int) := by omega
        by_cases hlt : k < f
        · have j1 : (k : Int) < (f : Int) := by omega
          obtain ⟨x, hx, hcx⟩ := HG.out k hlt
          obtain ⟨r, hr⟩ := HGF.out k hlt
          obtain ⟨hfb, rfl⟩ := HFA.out (by omega)
          obtain ⟨s, g0, g1, g2⟩ := HFI.out k r hr
          have hx2 : Hid (ft[k]? = some r.1) := by show _ = _; rw [hft.out, hr]; rfl
          have hf2 : fb < w2.heap.size := by omega
          have d0 := (HW.out.cell (p := ⟨fb, k * 3, none⟩) hf2).trans ((B2.out.cell (p := ⟨fb, k * 3, none⟩) hfb).trans g0)
          have d1 := (HW.out.cell (p := ⟨fb, k * 3 + 1, none⟩) hf2).trans ((B2.out.cell (p := ⟨fb, k * 3 + 1, none⟩) hfb).trans g1)
          have d2 := (HW.out.cell (p := ⟨fb, k * 3 + 2, none⟩) hf2).trans ((B2.out.cell (p := ⟨fb, k * 3 + 2, none⟩) hfb).trans g2)
          have hw2 : w.heap.size + 1 < w2.heap.size := by omega
          have d3 := (HW.out.cell (p := ⟨w.heap.size, 1, none⟩) (by show w.heap.size < _; omega)).trans P1.out
          have d4 := (HW.out.cell (p := ⟨w.heap.size + 1, 2, none⟩) hw2).trans P6.out
          have hab2 : ab < w2.heap.size := by omega
          have d5 := (HW.out.cell (p := ⟨ab, aoff + p + k, none⟩) hab2).trans ((BB2.out.cell (p := ⟨ab, aoff + p + k, none⟩) hab).trans hcx)
          have LW := HW.out.size
          have HX := hide hx
          clear g0 g1 g2 hcx hx hr
          obtain ⟨t, ht⟩ : ∃ t, t = r.1 := ⟨_, rfl⟩
          rw [← ht] at d1 hx2
          generalize r.2 = rb at *
          clear ht
          have HWA : Hid (∀ A, Below w2.heap.size w2 (wr.alloc A)) := fun A => HW.out.alloc HW.out.size A
          have s0 : ∀ A, (wr.alloc A).cell? ⟨w.heap.size, 1, none⟩ = some (.slice (some ⟨ab, aoff, none⟩) m acap) := fun A => by rw [World.cell?_alloc_lt _ _ ⟨w.heap.size, 1, none⟩ (by show w.heap.size < _; omega)]; exact d3
          have s1 : ∀ A, (wr.alloc A).cell? ⟨w.heap.size + 1, 2, none⟩ = some (.int .i64 (p : Int)) := fun A => by rw [World.cell?_alloc_lt _ _ ⟨w.heap.size + 1, 2, none⟩ (by show w.heap.size + 1 < _; omega)]; exact d4
          have s2 : ∀ A, (wr.alloc A).cell? ⟨ab, aoff + p + k, none⟩ = some (.int .i64 x) := fun A => by rw [World.cell?_alloc_lt _ _ ⟨ab, aoff + p + k, none⟩ (by show ab < _; omega)]; exact d5
          clear d3 d4 d5
          have pk0 : (0 : Int) ≤ (p : Int) + (k : Int) := by omega
          have pk1 : (p : Int) + (k : Int) < (m : Int) := by omega
          have hwr : IntKind.i64.wrap ((p : Int) + (k : Int)) = (p : Int) + (k : Int) := by rw [IntKind.wrap_i64]; omega
          have hnn : ((p : Int) + (k : Int)).toNat = p + k := by omega
          have s3 : ∀ A, (wr.alloc A).cell? ⟨ab, aoff + (p + k), none⟩ = some (.int .i64 x) := fun A => by rw [← Nat.add_assoc]; exact s2 A
          by_cases he : x = t
          · have HR := hide (eq_next HA.out HX.out (by rw [hx2.out, he]))
            have hb : (x == t) = true := by simpa using he
            subst he
            clear HX hx2 HA
            go_wp2_with fail
            go_quiet (fail)
            go_wp2
            go_roundw
            case rel => exact ⟨k + 1, by omega, by go_num, HR.out, below_drewN (HWA.out _) _⟩
            case measure => simp [intOf]; omega
          · have HR : Hid (R = false) := by
              show _ = _
              rw [HE.out, beq_eq_false_iff_ne]
              intro e
              have h1 := HX.out
              rw [e, hx2.out] at h1
              exact he (Option.some.inj h1).symm
            have hb : (x == t) = false := by simpa using he
            clear HX hx2 HA
            go_wp2_with fail
            go_quiet (fail)
            go_wp2
            go_ret
            exact ⟨ret_b HR.out.symm, below_drewN (BB2.out.trans ((HWA.out _).mono BB2.out.size)) _⟩
        · obtain rfl : k = f := by omega
          have HR : Hid (R = true) := by
            show _ = _
            have := HA.out
            rw [List.take_of_length_le (by rw [HL.out]; exact Nat.le_refl _), List.take_of_length_le (by rw [hfl.out]; exact Nat.le_refl _)] at this
            rw [HE.out, this]
            exact beq_self_eq_true _
          go_wp2
          go_ret
          exact ⟨ret_b HR.out.symm, BB2.out.trans (HW.out.mono BB2.out.size)⟩
  · have m1 := fields_no a hk
    have HE : Hid (blkB ty a b = false) := by
      show _ = _
      rw [E.out]
      cases q : kindOk a
      · rfl
      · exact absurd ((kindOk_iff a).1 q) hk
    generalize blkB ty a b = R at *
    clear E c1 hT
    go_enter Tryd.func54, Tryd.ntmps54
    go_wp2_with (go_at_call 76; refine (m1 _).mono ?_; rintro e w1 ⟨rfl, rfl⟩)
    go_ret
    exact ⟨ret_b HE.out.symm, HB2.out _ _⟩
end Go.Proofs.YtlckedionmgjjaaDoor
namespace Go.Proofs.YtlckedionmgjjaaDoor
open Go.RowKit
/-- an operation's name -/
def opName (k : Int) : List UInt8 := if k = 1 then [80, 85, 83, 72] else if k = 2 then [76, 79, 65, 68] else if k = 3 then [83, 84, 79, 82, 69] else if k = 4 then [76, 79, 65, 68, 88] else if k = 5 then [83, 84, 79, 82, 69, 88] else if k = 6 then [84, 87, 79] else if k = 7 then [79, 78, 69] else if k = 8 then [84, 79] else if k = 9 then [74, 85, 77, 80] else if k = 10 then [70, 65, 76, 83, 69] else if k = 11 then [67, 65, 76, 76] else [69, 78, 68]
/-- the function of its row -/
def opFn (k : Int) : Nat := if k = 1 then 47 else if k = 2 ∨ k = 3 then 48 else if k = 4 ∨ k = 5 then 49 else if k = 6 then 50 else if k = 7 then 51 else if k = 8 then 52 else if k = 9 ∨ k = 10 then 53 else if k = 11 then 54 else 55
def opRow (k : Int) : Array Value := #[.string ⟨(opName k).toArray⟩, .int .u8 (hasN k : Int), .func (.func (opFn k)) #[] #[]]
def ruNone : Array Value := #[.string ⟨#[]⟩, .int .u8 0, .nilFunc]
def ruC : Array Value := (ruNone.toList ++ (List.range 12).flatMap fun (k : Nat) => (opRow ((k : Int) + 1)).toList).toArray
def ruZ : Array Value := ((List.range 13).flatMap fun _ => ruNone.toList).toArray
theorem info106 : (Tryd.prog.info? 86).map (fun i => (i.zero, i.size)) = some (some (.agg ruZ), 39) := by kernel_rfl
theorem zero106 (w : World) : (zeroValue 86).run Tryd.prog w = .ok (.agg ruZ) w := (zero_of_info info106).1 w
theorem size86 : (Tryd.prog.info? 86).map (·.size) = some ruC.size := (zero_of_info info106).2.trans (by kernel_rfl)
theorem size_zero : ruZ.size = ruC.size := by kernel_rfl
theorem ru_one : ruC.all (·.oneCell') = true := by kernel_rfl
theorem size69 : (Tryd.prog.info? 69).map (·.size) = some 3 := by kernel_rfl
theorem opRow_one (k : Int) : (opRow k).all (·.oneCell') = true := by
  unfold opRow
  rw [← Array.all_toList]; rfl
theorem ruNone_one : ruNone.all (·.oneCell') = true := by kernel_rfl
theorem ru_at (k : Nat) (h1 : 1 ≤ k) (h12 : k ≤ 12) : ruC[k * 3]? = some (.string ⟨(opName (k : Int)).toArray⟩) ∧ ruC[k * 3 + 1]? = some (.int .u8 (hasN (k : Int) : Int)) ∧ ruC[k * 3 + 2]? = some (.func (.func (opFn (k : Int))) #[] #[]) := by
  have : k = 1 ∨ k = 2 ∨ k = 3 ∨ k = 4 ∨ k = 5 ∨ k = 6 ∨ k = 7 ∨ k = 8 ∨ k = 9 ∨ k = 10 ∨ k = 11 ∨ k = 12 := by omega
  rcases this with rfl | rfl | rfl | rfl | rfl | rfl | rfl | rfl | rfl | rfl | rfl | rfl
  all_goals exact ⟨by rfl, by rfl, by rfl⟩
theorem ru_cell (w : World) (j : Nat) (v : Value) (h : ruC[j]? = some v) : ((w.alloc (.cells #[.string ⟨#[]⟩, .int .u8 0, .nilFunc] 69)).alloc (.cells ruC 86)).cell? ⟨w.heap.size + 1, j, none⟩ = some v :=
  (cell_of_row _ _ j ruC 86 (0, 0) (Four.two_at w _ _)).trans h
set_option maxRecDepth 100000 in
set_option maxHeartbeats 1600000 in
theorem rule_out (op : Int) (w : World) (ho : ¬ (1 ≤ op ∧ op ≤ 12)) : Calls Tryd.prog 31 #[.int .i64 op] w fun e w' => e = .returned (.tuple #[.agg ruNone, .bool false]) ∧ Below w.heap.size w w' := by
  have hz := zero106
  have h0 := size86
  have h1 := size_zero
  have h2 := ru_one
  have hR := hide (Four.heap_setRow_same _ w.heap.size ruNone (ruNone) 69 (Four.one_at w (.cells ruNone 69) (.cells ruC 86)))
  have hB := hide (Four.below_setRow' (Four.below2 w (.cells ruNone 69) (.cells ruC 86)) (ruNone) (Nat.le_refl w.heap.size))
  have hd : op < 1 ∨ (¬ op < 1 ∧ 13 ≤ op) := by omega
  clear ho
  rcases hd with hl | ⟨hl, hl2⟩
  all_goals
    go_enter Tryd.func31, Tryd.ntmps31
    go_wp2_with (first | ((with_reducible refine Four.at_build (dst := some 17) ?_); go_must (refine wpList_buildTo rfl 86 _ rfl (some 17) rfl ruC (by kernel_rfl) ?_)) | ((with_reducible refine Four.at_store (ty := 86) ?_); go_must (refine wpList_store_rowTo rfl 86 _ _ rfl rfl _ ruC rfl rfl 86 ruZ (Four.two_at w _ _) h0 h1 h2 ?_; rw [Four.two_set])) | ((with_reducible refine Four.at_store (ty := 69) ?_); go_must (refine wpList_store_rowTo rfl 69 _ _ rfl rfl w.heap.size (ruNone) rfl rfl 69 ruNone (Four.one_at w _ _) size69 rfl ruNone_one ?_)))
    refine bodyPost_ret (v := .tuple #[.agg (ruNone), .bool false]) ?_ rfl ⟨rfl, hB.out⟩
    exact Four.results_row_tmp Tryd.results31 _ _ w.heap.size 69 (ruNone) (0, 0) _ _ rfl rfl hR.out Tryd.underlying69 rfl size69
set_option maxRecDepth 100000 in
set_option maxHeartbeats 1600000 in
theorem rule_in (k : Nat) (hk1 : 1 ≤ k) (hk : k ≤ 12) (w : World) : Calls Tryd.prog 31 #[.int .i64 (k : Int)] w fun e w' => e = .returned (.tuple #[.agg (opRow (k : Int)), .bool true]) ∧ Below w.heap.size w w' := by
  have hz := zero106
  have h0 := size86
  have h1 := size_zero
  have h2 := ru_one
  have h3 := opRow_one (k : Int)
  have i0 : ¬ (k : Int) < 1 := by omega
  have i1 : (k : Int) < 13 := by omega
  have i2 : (0 : Int) ≤ (k : Int) := by omega
  obtain ⟨r0, r1, r2⟩ := ru_at k hk1 hk
  have q0 := ru_cell w _ _ r0
  have q1 := ru_cell w _ _ r1
  have q2 := ru_cell w _ _ r2
  have hR := hide (Four.heap_setRow_same _ w.heap.size ruNone (opRow (k : Int)) 69 (Four.one_at w (.cells ruNone 69) (.cells ruC 86)))
  have hB := hide (Four.below_setRow' (Four.below2 w (.cells ruNone 69) (.cells ruC 86)) (opRow (k : Int)) (Nat.le_refl w.heap.size))
  clear r0 r1 r2 hk hk1
  go_enter Tryd.func31, Tryd.ntmps31
  go_wp2_with (first | ((with_reducible refine Four.at_build (dst := some 17) ?_); go_must (refine wpList_buildTo rfl 86 _ rfl (some 17) rfl ruC (by kernel_rfl) ?_)) | ((with_reducible refine Four.at_store (ty := 86) ?_); go_must (refine wpList_store_rowTo rfl 86 _ _ rfl rfl _ ruC rfl rfl 86 ruZ (Four.two_at w _ _) h0 h1 h2 ?_; rw [Four.two_set])) | ((with_reducible refine Four.at_store (ty := 69) ?_); go_must (refine wpList_store_rowTo rfl 69 _ _ rfl rfl w.heap.size (opRow (k : Int)) rfl rfl 69 ruNone (Four.one_at w _ _) size69 rfl (h3) ?_)))
  refine bodyPost_ret (v := .tuple #[.agg (opRow (k : Int)), .bool true]) ?_ rfl ⟨rfl, hB.out⟩
  exact Four.results_row_tmp Tryd.results31 _ _ w.heap.size 69 (opRow (k : Int)) (0, 0) _ _ rfl rfl hR.out Tryd.underlying69 rfl size69
end Go.Proofs.YtlckedionmgjjaaDoor
