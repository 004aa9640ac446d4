/- The walk of the law WireJoins. -/
import Derived.Test.YtelhfdhgcojmlaaDoorBackW
import Derived.Test.YtelhfdhgcojmlaaDoorLendW
namespace Go.Proofs.YtelhfdhgcojmlaaDoor
open Go.RowKit
theorem run_append_none (ty g n cap c : Nat) (hn : n ≤ cap) (W : World) : (Builtin.append_ #[22, 22] ty #[.slice (some ⟨g, 0, none⟩) n cap, .slice none 0 c]).run Tryd.prog W = .ok (.slice (some ⟨g, 0, none⟩) n cap) W := by
  simp [Builtin.append_, go_sem, hn]
theorem run_append_items (w : World) (base ty g n cap tot : Nat) (xs : List Value) (hown : w.ownsRow base 38 3 (.slice (some ⟨g, 0, none⟩) n cap) n xs) (u : Value) (l : List It) (hL : Lst w u l) (htot : n + l.length = tot) (hbytes : tot ≤ 4398046511104) (hbase : base ≤ w.heap.size) :
    ∃ g' cap' w', (Builtin.append_ #[22, 22] ty #[.slice (some ⟨g, 0, none⟩) n cap, u]).run Tryd.prog w = .ok (.slice (some ⟨g', 0, none⟩) tot cap') w' ∧ w'.ownsRow base 38 3 (.slice (some ⟨g', 0, none⟩) tot cap') tot (xs ++ itsC l) ∧ w.grownBy w' (some g) := by
  obtain ⟨i0, hi, hz0, hz1, hz2⟩ := info_parts in38
  obtain ⟨a, b, off, c, rfl, hA, hI⟩ := hL
  subst htot
  have main : ∀ ad : Addr, a = some ad → (∀ j x, (itsC l)[j]? = some x → w.cell? (ad.add j) = some x) → ∃ g' cap' w', (Builtin.append_ #[22, 22] ty #[.slice (some ⟨g, 0, none⟩) n cap, .slice a l.length c]).run Tryd.prog w = .ok (.slice (some ⟨g', 0, none⟩) (n + l.length) cap') w' ∧ w'.ownsRow base 38 3 (.slice (some ⟨g', 0, none⟩) (n + l.length) cap') (n + l.length) (xs ++ itsC l) ∧ w.grownBy w' (some g) := fun ad had hc => by
    subst had
    obtain ⟨v', w', hr, h2, h3, h4, _⟩ := run_append_own_at (P := Tryd.prog) w base 22 ty 38 i0 _ 3 32 Tryd.underlying22 hi hz0 hz1 hz2 rfl (by omega) _ n xs hown ad l.length c (itsC l) (itsC_length l) hc (itsC_one l) (by unfold maxLen; omega) (by omega) hbase
    rcases h2.2 with ⟨hv, _⟩ | ⟨g', cap', cur, hv, _⟩
    · exact absurd (h4.1 hv).1 (by intro h; cases h)
    · subst hv
      exact ⟨g', cap', w', hr, h2, h3⟩
  by_cases hn : 0 < l.length
  · obtain ⟨_, rfl⟩ := hA hn
    exact main _ rfl (items_cells hI)
  · have hl : l = [] := List.eq_nil_of_length_eq_zero (by omega)
    subst hl
    cases a with
    | some ad => exact main ad rfl (fun j x hx => by cases hx)
    | none =>
      refine ⟨g, cap, w, run_append_none ty g n cap c (owns_cap hown) w, ?_, ⟨rfl, rfl, rfl, Nat.le_refl _, fun _ _ _ => rfl⟩⟩
      show w.ownsRow base 38 3 (.slice (some ⟨g, 0, none⟩) n cap) n (xs ++ [])
      rw [List.append_nil]; exact hown
theorem wpList_append_items {w : World} {ops : Array Oper} {rest : List Oper} {o : Oper} {a : Act} {Q : Exit → Act → World → Prop} (hgd : o.guard = none) (s x : Operand)
    (ho : o.op = .call { callee := .builtin .append, args := #[s, x], argTypes := #[22, 22] })
    (base g n cap tot : Nat) (xs : List Value) (hs : a.eval s = .slice (some ⟨g, 0, none⟩) n cap) (hown : w.ownsRow base 38 3 (.slice (some ⟨g, 0, none⟩) n cap) n xs) (u : Value) (l : List It) (hx : a.eval x = u) (hL : Lst w u l) (htot : n + l.length = tot) (hbytes : tot ≤ 4398046511104) (hbase : base ≤ w.heap.size)
    (h : ∀ g' cap' w', w'.ownsRow base 38 3 (.slice (some ⟨g', 0, none⟩) tot cap') tot (xs ++ itsC l) → w.grownBy w' (some g) → wpList Tryd.prog ops Q rest (a.put o.dst (.slice (some ⟨g', 0, none⟩) tot cap')) w') : wpList Tryd.prog ops Q (o :: rest) a w := by
  refine wpList_plain hgd fun K hK => ?_
  obtain ⟨g', cap', w', hr, h2, h3⟩ := run_append_items w base o.type g n cap tot xs hown u l hL htot hbytes hbase
  unfold Oper.wp execOp
  simp only [ho, resolve, invoke, builtin, Sem.run_bind, Sem.run_pure, Result.andThen_ok, List.map_toArray, List.map_cons, List.map_nil, hs, hx, hr]
  exact hK _ _ (h g' cap' w' h2 h3)
set_option maxRecDepth 100000 in
set_option maxHeartbeats 3200000 in
theorem joins_any (va vb : Value) (la lb : List It) (w : World) (hA : Lst w va la) (hB : Lst w vb lb) (hoA : okL la) (hoB : okL lb) (hsum : la.length + lb.length ≤ 1048576) (hg : Glo w) :
    Calls Tryd.prog 6 #[va, vb] w fun e w' => e = .returned (.bool true) ∧ Below w.heap.size w w' := by
  have h0 := hg.lt
  have c0 := works_any w hg
  have HLA := hide hA
  have HLB := hide hB
  have hoJ : okL (la ++ lb) := ⟨by rw [List.length_append]; omega, fun x hx => by
    rcases List.mem_append.1 hx with h | h
    · exact hoA.2 x h
    · exact hoB.2 x h⟩
  have CA := hide (fun W hl => encode_any va la W hl hoA)
  have CB := hide (fun W hl => encode_any vb lb W hl hoB)
  have CJ := hide (fun W u hl => encode_any u (la ++ lb) W hl hoJ)
  have JB := hide (join_bad la lb)
  have JO := hide (join_ok la lb)
  have LA : Hid (encE la = 0 → encL la = two la.length ++ bodyB la) := fun h => by unfold encL; rw [if_pos h]; rfl
  have LB : Hid (encE lb = 0 → encL lb = two lb.length ++ bodyB lb) := fun h => by unfold encL; rw [if_pos h]; rfl
  have LJ : Hid (encE (la ++ lb) = 0 → encL (la ++ lb) = two (la.length + lb.length) ++ (bodyB la ++ bodyB lb)) := fun h => by
    unfold encL; rw [if_pos h, bytesB_append]
  obtain ⟨a1, b1, off1, cap1, rfl, _, _⟩ := hA
  obtain ⟨a2, b2, off2, cap2, rfl, _, _⟩ := hB
  clear hg hoA hoB hoJ
  obtain ⟨A, hAl⟩ : ∃ A, A = la.length := ⟨_, rfl⟩
  obtain ⟨B, hBl⟩ : ∃ B, B = lb.length := ⟨_, rfl⟩
  have HAl := hide hAl
  have HBl := hide hBl
  rw [← hAl] at hsum HLA CA LA LJ ⊢
  rw [← hBl] at hsum HLB CB LB LJ ⊢
  have i1 : (A : Int) + (B : Int) ≤ 1048576 := by omega
  have i2 : (0 : Int) ≤ (A : Int) := by omega
  have i3 : (0 : Int) ≤ (B : Int) := by omega
  clear hAl hBl
  go_enter Tryd.func6, Tryd.ntmps6
  go_wp2_with fail
  refine c0.mono ?_
  rintro e w1 ⟨rfl, hb1⟩
  have B1 := hide hb1
  clear hb1 c0
  go_wp2_with fail
  refine (CA.out _ (HLA.out.below B1.out (Nat.le_refl _))).mono ?_
  rintro e w2 ⟨rfl, hb2⟩
  have B2 : Hid (Below w.heap.size w w2) := B1.out.trans (hb2.mono B1.out.size)
  clear hb2 B1 CA
  go_wp2_with fail
  refine (CB.out _ (HLB.out.below B2.out (Nat.le_refl _))).mono ?_
  rintro e w3 ⟨rfl, hb3⟩
  have B3 : Hid (Below w.heap.size w w3) := B2.out.trans (hb3.mono B2.out.size)
  clear hb3 B2 CB
  have z3 := B3.out.size
  have hst : (w3.alloc (.cells #[] 38)).ownsRow w.heap.size 38 3 (.slice (some ⟨w3.heap.size, 0, none⟩) 0 0) 0 [] := World.ownsRow_made w3 #[] 0 z3 (by unfold maxLen; omega) rfl
  have HST := hide hst
  have B4 : Hid (Below w.heap.size w (w3.alloc (.cells #[] 38))) := B3.out.alloc z3 _
  clear hst
  generalize encE la = E1 at *
  generalize encE lb = E2 at *
  generalize encE (la ++ lb) = E3 at *
  go_wp2_with (at_builtin; first
    | (refine wpList_append_items (by rfl) _ _ (by rfl) w.heap.size w3.heap.size 0 0 A [] (by rfl) HST.out (.slice a1 A cap1) la (by rfl) (HLA.out.below B4.out (Nat.le_refl _)) (by rw [← HAl.out]; omega) (by omega) (by simp; omega) ?_; intro g5 cap5 w5 hown5 hgrow5; have O5 := hide hown5; have B5 := hide (B4.out.grown hgrow5 (by simp; omega) (fun r hr => (HST.out.lt r hr).1)); have z5 := B5.out.size; clear hown5 hgrow5)
    | (refine wpList_append_items (by rfl) _ _ (by rfl) w.heap.size g5 A cap5 (A + B) _ (by rfl) O5.out (.slice a2 B cap2) lb (by rfl) (HLB.out.below B5.out (Nat.le_refl _)) (by rw [← HBl.out]) (by omega) (by omega) ?_; intro g6 cap6 w6 hown6 hgrow6; have O6 := hide hown6; have B6 := hide (B5.out.grown hgrow6 z5 (fun r hr => (O5.out.lt r hr).1)); clear hown6 hgrow6))
  have L6 : Hid (Lst w6 (.slice (some ⟨g6, 0, none⟩) (A + B) cap6) (la ++ lb)) := by
    have h := O6.out
    rw [List.nil_append, ← itsC_append] at h
    have e : A + B = (la ++ lb).length := by rw [List.length_append, HAl.out, HBl.out]
    rw [e] at h ⊢
    exact Lst.of_owns h
  refine (CJ.out _ _ L6.out).mono ?_
  rintro e w7 ⟨rfl, hb7⟩
  have B7 : Hid (Below w.heap.size w w7) := B6.out.trans (hb7.mono B6.out.size)
  clear hb7 CJ L6 O6 O5 B6 B5 B4 B3 HST z3 z5
  by_cases hE : E1 = 0 ∧ E2 = 0
  · have JJ := JO.out hE.1 hE.2
    have LA1 := LA.out hE.1
    have LB1 := LB.out hE.2
    have HLJ := LJ.out
    obtain ⟨rfl, rfl⟩ := hE
    have hXl : (encL la).length = 2 + (bodyB la).length := by rw [LA1, List.length_append, two_length]
    have hYl : (encL lb).length = 2 + (bodyB lb).length := by rw [LB1, List.length_append, two_length]
    have lXb := bytesB_length la
    have lYb := bytesB_length lb
    have sX := list_size (encL la)
    have sY := list_size (encL lb)
    have xX := fun (hh : 2 ≤ (⟨(encL la).toArray⟩ : ByteArray).size) W => slice_from ⟨(encL la).toArray⟩ 2 hh W
    have xY := fun (hh : 2 ≤ (⟨(encL lb).toArray⟩ : ByteArray).size) W => slice_from ⟨(encL lb).toArray⟩ 2 hh W
    have xX1 : ∀ W, (Instr.slice 9 (.string ⟨(encL la).toArray⟩) (some (.int .i64 2)) none none).run Tryd.prog W = .ok (.string ⟨(bodyB la).toArray⟩) W := fun W => by
      have h := xX (by omega) W
      rw [show (⟨(encL la).toArray⟩ : ByteArray).data.toList.drop 2 = bodyB la from by show (encL la).drop 2 = _; rw [LA1]; rfl] at h
      exact h
    have xY1 : ∀ W, (Instr.slice 9 (.string ⟨(encL lb).toArray⟩) (some (.int .i64 2)) none none).run Tryd.prog W = .ok (.string ⟨(bodyB lb).toArray⟩) W := fun W => by
      have h := xY (by omega) W
      rw [show (⟨(encL lb).toArray⟩ : ByteArray).data.toList.drop 2 = bodyB lb from by show (encL lb).drop 2 = _; rw [LB1]; rfl] at h
      exact h
    have k1 := encL_size la
    have k2 := encL_size lb
    clear xX xY LA LB LJ JO JB
    rcases JJ with ⟨h2, hor⟩ | ⟨hz, hle⟩
    · have j1 : (1000 : Int) < (A : Int) + (B : Int) ∨ (65536 : Int) < (((⟨(encL la).toArray⟩ : ByteArray).size : Nat) : Int) + (((⟨(encL lb).toArray⟩ : ByteArray).size : Nat) : Int) - 2 := by
        rcases hor with h | h
        · left; have := HAl.out; have := HBl.out; omega
        · right; omega
      have j2 : (((⟨(encL la).toArray⟩ : ByteArray).size : Nat) : Int) ≤ 65536 := by omega
      have j3 : (((⟨(encL lb).toArray⟩ : ByteArray).size : Nat) : Int) ≤ 65536 := by omega
      subst h2
      clear xX1 xY1 LA1 LB1 HLJ hXl hYl lXb lYb sX sY k1 k2 hor
      generalize (⟨(encL la).toArray⟩ : ByteArray) = X at *
      generalize (⟨(encL lb).toArray⟩ : ByteArray) = Y at *
      generalize (⟨(encL (la ++ lb)).toArray⟩ : ByteArray) = Z at *
      by_cases hbig : (1000 : Int) < (A : Int) + (B : Int)
      · clear j1
        go_wp2
        go_ret
        exact ⟨rfl, B7.out⟩
      · have j4 : (65536 : Int) < (X.size : Int) + (Y.size : Int) - 2 := by
          rcases j1 with h | h
          · exact absurd h hbig
          · exact h
        clear j1
        go_wp2
        go_ret
        exact ⟨rfl, B7.out⟩
    · have LJ1 := HLJ hz
      subst hz
      have hZl : (encL (la ++ lb)).length = 2 + ((bodyB la).length + (bodyB lb).length) := by rw [LJ1, List.length_append, List.length_append, two_length]
      have sZ := list_size (encL (la ++ lb))
      have xZ1 : ∀ W, (Instr.slice 9 (.string ⟨(encL (la ++ lb)).toArray⟩) (some (.int .i64 2)) none none).run Tryd.prog W = .ok (.string ⟨(bodyB la ++ bodyB lb).toArray⟩) W := fun W => by
        have h := slice_from ⟨(encL (la ++ lb)).toArray⟩ 2 (by omega) W
        rw [show (⟨(encL (la ++ lb)).toArray⟩ : ByteArray).data.toList.drop 2 = bodyB la ++ bodyB lb from by show (encL (la ++ lb)).drop 2 = _; rw [LJ1]; rfl] at h
        exact h
      have hAB : A + B ≤ 1000 := by have := HAl.out; have := HBl.out; omega
      have q0 : ∀ W, (Instr.index 9 (.string ⟨(encL (la ++ lb)).toArray⟩) (.int .i64 0)).run Tryd.prog W = .ok (.int .u8 (((A + B) / 256 : Nat) : Int)) W := fun W => by
        have h := run_idx ⟨(encL (la ++ lb)).toArray⟩ 0 (UInt8.ofNat ((A + B) / 256)) (by show (encL (la ++ lb))[0]? = _; rw [LJ1]; rfl) W
        rw [byte_of, show (A + B) / 256 % 256 = (A + B) / 256 from by omega] at h
        exact h
      have q1 : ∀ W, (Instr.index 9 (.string ⟨(encL (la ++ lb)).toArray⟩) (.int .i64 1)).run Tryd.prog W = .ok (.int .u8 (((A + B) % 256 : Nat) : Int)) W := fun W => by
        have h := run_idx ⟨(encL (la ++ lb)).toArray⟩ 1 (UInt8.ofNat ((A + B) % 256)) (by show (encL (la ++ lb))[1]? = _; rw [LJ1]; rfl) W
        rw [byte_of, show (A + B) % 256 % 256 = (A + B) % 256 from by omega] at h
        exact h
      have aXY : ∀ W : World, (Op.stringOp .add ⟨(bodyB la).toArray⟩ ⟨(bodyB lb).toArray⟩).run Tryd.prog W = .ok (.string ⟨(bodyB la ++ bodyB lb).toArray⟩) W := fun W => by
        rw [run_string_add_sum W _ _ (by rw [list_size, list_size]; omega)]
        congr 2
      obtain ⟨H, hH⟩ : ∃ H, H = (A + B) / 256 := ⟨_, rfl⟩
      obtain ⟨L, hLo⟩ : ∃ L, L = (A + B) % 256 := ⟨_, rfl⟩
      rw [← hH] at q0
      rw [← hLo] at q1
      have hHL : ((H : Int) * 256 + (L : Int) == (A : Int) + (B : Int)) = true := by rw [beq_iff_eq]; omega
      have r1 : (H : Int) ≤ 255 := by omega
      have r2 : (L : Int) ≤ 255 := by omega
      clear LA1 LB1 HLJ hXl hYl lXb lYb sX sY k1 k2 hZl sZ LJ1 hle hH hLo hAB
      generalize (⟨(encL la).toArray⟩ : ByteArray) = X at *
      generalize (⟨(encL lb).toArray⟩ : ByteArray) = Y at *
      generalize (⟨(encL (la ++ lb)).toArray⟩ : ByteArray) = Z at *
      generalize (⟨(bodyB la).toArray⟩ : ByteArray) = X2 at *
      generalize (⟨(bodyB lb).toArray⟩ : ByteArray) = Y2 at *
      generalize (⟨(bodyB la ++ bodyB lb).toArray⟩ : ByteArray) = Z2 at *
      go_wp2
      go_quiet (fail)
      go_wp2
      go_ret
      exact ⟨rfl, below_drawn B7.out _⟩
  · have hE3 : E3 ≠ 0 := JB.out (by
      by_cases h : E1 = 0
      · exact .inr (fun h2 => hE ⟨h, h2⟩)
      · exact .inl h)
    have e3 : (E3 != 0) = true := by rw [bne_iff_ne]; exact hE3
    generalize (⟨(encL la).toArray⟩ : ByteArray) = X at *
    generalize (⟨(encL lb).toArray⟩ : ByteArray) = Y at *
    generalize (⟨(encL (la ++ lb)).toArray⟩ : ByteArray) = Z at *
    by_cases h1 : E1 = 0
    · have e2 : (E2 == 0) = false := by rw [beq_eq_false_iff_ne]; exact fun h2 => hE ⟨h1, h2⟩
      clear hE hE3 JB JO LA LB LJ
      subst h1
      have E3h := hide e3
      clear e3
      go_wp2
      go_ret
      exact ⟨ret_bool E3h.out, B7.out⟩
    · have e1 : (E1 == 0) = false := by rw [beq_eq_false_iff_ne]; exact h1
      have E3h := hide e3
      clear hE hE3 JB JO LA LB LJ h1 e3
      go_wp2
      go_ret
      exact ⟨ret_bool E3h.out, B7.out⟩
theorem joins_row (va : Value) (la : List It) (vb : Value) (lb : List It) {w' : World} (hA : Lst w' va la) (hoA : okL la) (hB : Lst w' vb lb) (hoB : okL lb) (w : World) (hg : Glo w) (hsum : la.length + lb.length ≤ 1048576) (e : w' = w := by rfl) :
    Calls Tryd.prog 6 #[va, vb] w fun e w' => e = .returned (.bool true) ∧ Below w.heap.size w w' := by
  subst e
  exact joins_any va vb la lb w' hA hB hoA hoB hsum hg
end Go.Proofs.YtelhfdhgcojmlaaDoor
