/- The contract of lex.untyped. -/
import Derived.Test.YtkicbmjjbnblfaaGreatDoorTmA
namespace Go.Proofs.YtkicbmjjbnblfaaGreatDoor
open Go.RowKit
theorem hasPre (s p : Bs) : Lib.hasPrefix s p = p.isPrefixOf s := rfl
abbrev Y5 : Obj := .cells #[.int .i64 0, .string ⟨#[]⟩, .int .i64 0, .int .i64 0, .int .i64 0] 54
theorem rez5 {w W : World} (h : Below (w.heap.size + 1) (w.alloc Y5) W) :
    (W.cell? ⟨w.heap.size, 0, none⟩ = some (.int .i64 0) ∧ W.cell? ⟨w.heap.size, 1, none⟩ = some (.string ⟨#[]⟩) ∧ W.cell? ⟨w.heap.size, 2, none⟩ = some (.int .i64 0) ∧ W.cell? ⟨w.heap.size, 3, none⟩ = some (.int .i64 0) ∧ W.cell? ⟨w.heap.size, 4, none⟩ = some (.int .i64 0)) ∧
    (W.frozen? ⟨w.heap.size, 0, none⟩ = false ∧ W.frozen? ⟨w.heap.size, 1, none⟩ = false ∧ W.frozen? ⟨w.heap.size, 2, none⟩ = false ∧ W.frozen? ⟨w.heap.size, 3, none⟩ = false ∧ W.frozen? ⟨w.heap.size, 4, none⟩ = false) := by
  refine ⟨⟨?_, ?_, ?_, ?_, ?_⟩, ?_, ?_, ?_, ?_, ?_⟩
  · exact (h.cell (p := ⟨w.heap.size, 0, none⟩) (by simp)).trans (by simp)
  · exact (h.cell (p := ⟨w.heap.size, 1, none⟩) (by simp)).trans (by simp)
  · exact (h.cell (p := ⟨w.heap.size, 2, none⟩) (by simp)).trans (by simp)
  · exact (h.cell (p := ⟨w.heap.size, 3, none⟩) (by simp)).trans (by simp)
  · exact (h.cell (p := ⟨w.heap.size, 4, none⟩) (by simp)).trans (by simp)
  · exact (h.frozen (p := ⟨w.heap.size, 0, none⟩) (by simp)).trans (by simp)
  · exact (h.frozen (p := ⟨w.heap.size, 1, none⟩) (by simp)).trans (by simp)
  · exact (h.frozen (p := ⟨w.heap.size, 2, none⟩) (by simp)).trans (by simp)
  · exact (h.frozen (p := ⟨w.heap.size, 3, none⟩) (by simp)).trans (by simp)
  · exact (h.frozen (p := ⟨w.heap.size, 4, none⟩) (by simp)).trans (by simp)
theorem bel5 {B : Nat} {w W : World} (h : Below B w W) {g : Nat} (hg : B ≤ g) (a b c d e : Value) : Below B w (((((W.setCell ⟨g, 0, none⟩ a).setCell ⟨g, 1, none⟩ b).setCell ⟨g, 2, none⟩ c).setCell ⟨g, 3, none⟩ d).setCell ⟨g, 4, none⟩ e) :=
  ((((h.setCell hg a).setCell hg b).setCell hg c).setCell hg d).setCell hg e
theorem cel5 {w W : World} {p : Addr} {x : Option Value} (h : W.cell? p = x) (hb : p.block ≠ w.heap.size) (a1 a2 a3 a4 a5 : Value) : (((((W.setCell ⟨w.heap.size, 0, none⟩ a1).setCell ⟨w.heap.size, 1, none⟩ a2).setCell ⟨w.heap.size, 2, none⟩ a3).setCell ⟨w.heap.size, 3, none⟩ a4).setCell ⟨w.heap.size, 4, none⟩ a5).cell? p = x := by
  rw [World.cell?_setCell_other _ _ _ _ (fun x => hb (by rw [← x])), World.cell?_setCell_other _ _ _ _ (fun x => hb (by rw [← x])), World.cell?_setCell_other _ _ _ _ (fun x => hb (by rw [← x])), World.cell?_setCell_other _ _ _ _ (fun x => hb (by rw [← x])), World.cell?_setCell_other _ _ _ _ (fun x => hb (by rw [← x]))]
  exact h
theorem drew_cel (W : World) (p : Addr) : W.drew.cell? p = W.cell? p := rfl
theorem wrap_i64_small (n : Nat) (h : n < 9223372036854775808) : IntKind.i64.wrap (n : Int) = (n : Int) := by
  simp [IntKind.wrap, IntKind.bits, IntKind.signed]
  omega
theorem size136 : (Tryz.prog.info? 136).map (·.size) = some 6 := by kernel_rfl
theorem signed_some (m : Nat) (h : m ≤ 4294967296) : ∃ r : Int, (m ≤ 4294967295 → r = low32 m) ∧ ∀ W, Calls Tryz.prog 100 #[.int .i64 (m : Int)] W fun e w' => e = .returned (.int .i64 r) ∧ w' = W := by
  by_cases hm : m ≤ 4294967295
  · exact ⟨low32 m, fun _ => rfl, fun W => signed_any m hm W⟩
  · obtain rfl : m = 4294967296 := by omega
    exact ⟨0, fun h => absurd h hm, fun W => signed_over W⟩
set_option maxRecDepth 100000 in
set_option maxHeartbeats 3200000 in
theorem untyped_any (l : Bs) (hl : l.length ≤ 140737488355000) (w : World) (hg : Glo w) : Calls Tryz.prog 85 #[.string ⟨l.toArray⟩] w fun e w' => (∃ v, e = .returned v ∧ TokOut ((based l).map fun x => (numT x.1 0, x.2)) l.length v) ∧ Below w.heap.size w w' := by
  have ht : ∀ o, TabAt (w.alloc o) 4 baseTab := hg.base.alloc (by have := hg.lt; omega)
  have ix : Hid (∀ (k : Nat) (h : k < 3) W, (Instr.index 136 (.agg baseTab.toArray) (.int .i64 (k : Int))).run Tryz.prog W = .ok (.agg #[.string ⟨(baseNames[k]'h).toArray⟩, .int .i64 ((baseNos[k]'h : Nat) : Int)]) W) := fun k h W => index_row Tryz.underlying136 (fun _ => Tryz.isAgg135 _) (fun _ => Tryz.sizeOf135 _) _ k h _ (base_tab k h) W
  obtain ⟨T, hT⟩ : ∃ T, Value.agg baseTab.toArray = T := ⟨_, rfl⟩
  rw [hT] at ix
  have HL := hide hl
  have CC : Hid (∀ (p : Bs) W, Calls Tryz.prog 97 #[.string ⟨l.toArray⟩, .string ⟨p.toArray⟩] W fun e w' => e = .returned (.tuple #[.string ⟨(Lib.trimPrefix l p).toArray⟩, .bool (p.isPrefixOf l)]) ∧ w' = W) := fun p W => Tryz.strings_CutPrefix ⟨l.toArray⟩ ⟨p.toArray⟩ W
  have CN := hide fun (b : Bs) (hb : b.length ≤ 140737488355000) (base : Nat) (h2 : 2 ≤ base ∧ base ≤ 16) W => number_any b (by omega) base h2.1 h2.2 W
  generalize hs : (⟨l.toArray⟩ : ByteArray) = s at *
  replace hs := hide hs
  clear hg hl
  go_enter Tryz.func85, Tryz.ntmps85
  go_wp2_with ((with_reducible refine at_load (ty := 136) ?_); go_must (refine load_tab (b := 4) (t := baseTab) (T := T) rfl (ht _) hT Tryz.underlying136 rfl size136 ?_))
  clear ht hT
  go_loopw [16] (fun i wr => ∃ k : Nat, k ≤ 3 ∧ i = .int .i64 (k : Int) ∧ Hid ((∀ j (hj : j < 3), j < k → (baseNames[j]'hj).isPrefixOf l = false) ∧ Below (w.heap.size + 1) (w.alloc Y5) wr)) (fun i _ => 3 - (intOf i).toNat)
  case atStart => exact ⟨0, by omega, rfl, fun j _ h => absurd h (Nat.not_lt_zero _), Below.refl _ _⟩
  case round =>
    obtain ⟨k, hk, rfl, hh⟩ := hrel
    by_cases hlt : k < 3
    · have x0 := ix.out k hlt
      have i1 : (k : Int) < 3 := by omega
      have HT := hide fun h => based_at k hlt l h
      have HNo := hide (base_no k hlt)
      have HLn := hide (base_len k hlt)
      have HPrev := hide (fun (h : (baseNames[k]'hlt).isPrefixOf l = false) j (hj : j < 3) (hjk : j < k + 1) => show (baseNames[j]'hj).isPrefixOf l = false by
        by_cases e : j = k
        · subst e; exact h
        · exact hh.out.1 j hj (by omega))
      have cc := CC.out (baseNames[k]'hlt)
      generalize (baseNames[k]'hlt) = U at *
      generalize (baseNos[k]'hlt) = ty at *
      have hlen := hide (list_size U)
      obtain ⟨u, HU⟩ : ∃ u : ByteArray, Hid ((⟨U.toArray⟩ : ByteArray) = u) := ⟨_, rfl⟩
      rw [HU.out] at x0 cc hlen
      have zr := hh.out.2.size
      rw [World.size_alloc] at zr
      have B1 := hh.out.2.alloc (by omega) (.cells #[.string u, .int .i64 (ty : Int)] 135)
      cases hp : U.isPrefixOf l with
      | false =>
        rw [hp] at cc
        have HP := hide (HPrev.out hp)
        have B1' := hide B1
        clear B1 HPrev HT ix CC CN hp HU
        generalize (⟨(Lib.trimPrefix l U).toArray⟩ : ByteArray) = q at *
        go_wp2_with fail
        refine (cc _).mono ?_
        rintro e w1 ⟨rfl, hw1⟩
        subst hw1
        go_wp2
        go_roundw
        case rel => exact ⟨k + 1, by omega, by go_num, HP.out, B1'.out⟩
        case measure => simp only [intOf]; omega
      | true =>
        have htr : Lib.trimPrefix l U = l.drop U.length := by unfold Lib.trimPrefix; rw [hasPre, hp, if_pos rfl]
        rw [hp, htr] at cc
        have HR := hide (HT.out hp)
        have cn := CN.out (l.drop U.length) (by have := HL.out; rw [List.length_drop]; omega) ty HNo.out
        unfold numOut at cn
        obtain ⟨m, HM⟩ : ∃ m, Hid ((pd ty false 0 (l.drop U.length)).1 = m) := ⟨_, rfl⟩
        obtain ⟨z, HZ⟩ : ∃ z, Hid ((l.drop U.length).length - (pd ty false 0 (l.drop U.length)).2.length = z) := ⟨_, rfl⟩
        obtain ⟨b, HBo⟩ : ∃ b, Hid (okP ty (l.drop U.length) = b) := ⟨_, rfl⟩
        rw [HM.out, HZ.out, HBo.out] at cn
        have hm : m ≤ 4294967296 := by rw [← HM.out]; exact (pd_ge (by have := HNo.out; omega) _ _ _ (by omega)).2
        have hz : (z : Int) ≤ 140737488355000 := by
          have h1 := HZ.out
          have h2 := HL.out
          rw [List.length_drop] at h1
          omega
        have hz0 : (0 : Int) ≤ (z : Int) := by omega
        have hu3 : (u.size : Int) ≤ 3 := by have := hlen.out; have := HLn.out; omega
        have HSz : Hid ((u.size : Int) + (z : Int) = ((l.length - (pd ty false 0 (l.drop U.length)).2.length : Nat) : Int)) := by
          show _ = _
          have h1 := HZ.out
          have h2 := hlen.out
          have h3 := pd_len ty (l.drop U.length) false 0
          have h4 : U.length ≤ l.length := by
            have := (pre_iff U l).1 hp
            have := congrArg List.length this
            rw [List.length_take] at this
            omega
          rw [List.length_drop] at h1 h3
          omega
        obtain ⟨r, hr1, cs⟩ := signed_some m hm
        have hr1 := hide hr1
        have HRes : Hid ((based l).map (fun x => (numT x.1 0, x.2)) = if b = true ∧ m ≤ 4294967295 then some (numT r 0, (pd ty false 0 (l.drop U.length)).2) else none) := by
          show _ = _
          rw [HR.out]
          unfold basedP
          rw [HBo.out, HM.out]
          by_cases hc : b = true ∧ m ≤ 4294967295
          · rw [if_pos hc, if_pos hc, hr1.out hc.2]; rfl
          · rw [if_neg hc, if_neg hc]; rfl
        generalize (⟨(l.drop U.length).toArray⟩ : ByteArray) = q at *
        have hm1 : (m : Int) ≤ 4294967296 := by omega
        have hm0 : (0 : Int) ≤ (m : Int) := by omega
        have d1 : (wr.alloc (.cells #[.string u, .int .i64 (ty : Int)] 135)).cell? ⟨wr.heap.size, 0, none⟩ = some (.string u) := by simp
        have d1' : (wr.alloc (.cells #[.string u, .int .i64 (ty : Int)] 135)).cell? ⟨wr.heap.size, 1, none⟩ = some (.int .i64 (ty : Int)) := by simp
        obtain ⟨⟨k0, k1, k2, k3, k4⟩, f0, f1, f2, f3, f4⟩ := rez5 B1
        have HB2 := hide (((Below.refl w.heap.size w).alloc (Nat.le_refl _) Y5).trans (B1.mono (Nat.le_succ _)))
        have hne : wr.heap.size ≠ w.heap.size := by omega
        have hne' := hide hne
        clear HPrev HT ix CC CN hp HU htr HR HM HZ HBo hr1 hm hh hlen B1
        go_wp2_with fail
        refine (cc _).mono ?_
        rintro e w1 ⟨rfl, hw1⟩
        subst hw1
        go_wp2_with fail
        refine (cn _).mono ?_
        rintro e w1 ⟨rfl, hw1⟩
        subst hw1
        go_upto_region 7 with fail
        generalize wr.alloc (.cells #[.string u, .int .i64 (ty : Int)] 135) = w1 at *
        have K1 : w1.drew.cell? ⟨wr.heap.size, 0, none⟩ = some (.string u) := (drew_cel _ _).trans d1
        have K2 : ∀ a1 a2 a3 a4 a5, (((((w1.setCell ⟨w.heap.size, 0, none⟩ a1).setCell ⟨w.heap.size, 1, none⟩ a2).setCell ⟨w.heap.size, 2, none⟩ a3).setCell ⟨w.heap.size, 3, none⟩ a4).setCell ⟨w.heap.size, 4, none⟩ a5).drew.cell? ⟨wr.heap.size, 0, none⟩ = some (.string u) := fun a1 a2 a3 a4 a5 => (drew_cel _ _).trans (cel5 d1 hne a1 a2 a3 a4 a5)
        clear hne
        have JW := hide (show IntKind.i64.wrap ((u.size : Int) + (z : Int)) = (u.size : Int) + (z : Int) by rw [show (u.size : Int) + (z : Int) = ((u.size + z : Nat) : Int) by omega]; exact wrap_i64_small _ (by omega))
        cases b with
        | false =>
          have jw := JW.out
          refine wp_region_noPanic ?_
          refine wp_region_held_drew (S := (fun W => W.cell? ⟨wr.heap.size, 0, none⟩ = some (.string u))) (by kernel_rfl) K1 (fun hHeld => ?_)
          refine wpAnyH_take (i := 0) (v := .int .i64 (m : Int)) rfl (by kernel_rfl) (by kernel_rfl) (by kernel_rfl) (fun _ _ _ h => h) (Or.inl ⟨by rfl, fun W hW => by ((try dsimp only at hW); go_simp)⟩) hHeld ?_
          try dsimp only [Act.put, List.setIfInBounds_toArray, List.set_cons_zero, List.set_cons_succ]
          refine wpAnyH_take (i := 3) (v := .pointer (some ⟨wr.heap.size, 0, none⟩)) rfl (by kernel_rfl) (by kernel_rfl) (by kernel_rfl) (fun _ _ _ h => h) (Or.inl ⟨by rfl, fun W hW => by ((try dsimp only at hW); go_simp)⟩) hHeld ?_
          try dsimp only [Act.put, List.setIfInBounds_toArray, List.set_cons_zero, List.set_cons_succ]
          refine wpAnyH_take (i := 4) (v := .string u) rfl (by kernel_rfl) (by kernel_rfl) (by kernel_rfl) (fun _ _ _ h => h) (Or.inl ⟨by rfl, fun W hW => by ((try dsimp only at hW); go_simp)⟩) hHeld ?_
          try dsimp only [Act.put, List.setIfInBounds_toArray, List.set_cons_zero, List.set_cons_succ]
          refine wpAnyH_take (i := 5) (v := .int .i64 (u.size : Int)) rfl (by kernel_rfl) (by kernel_rfl) (by kernel_rfl) (fun _ _ _ h => h) (Or.inl ⟨by rfl, fun W hW => by ((try dsimp only at hW); go_simp)⟩) hHeld ?_
          try dsimp only [Act.put, List.setIfInBounds_toArray, List.set_cons_zero, List.set_cons_succ]
          refine wpAnyH_take (i := 6) (v := .int .i64 (z : Int)) rfl (by kernel_rfl) (by kernel_rfl) (by kernel_rfl) (fun _ _ _ h => h) (Or.inl ⟨by rfl, fun W hW => by ((try dsimp only at hW); go_simp)⟩) hHeld ?_
          try dsimp only [Act.put, List.setIfInBounds_toArray, List.set_cons_zero, List.set_cons_succ]
          refine wpAnyH_take (i := 7) (v := .int .i64 ((u.size : Int) + (z : Int))) rfl (by kernel_rfl) (by kernel_rfl) (by kernel_rfl) (fun _ _ _ h => h) (Or.inl ⟨by rfl, fun W hW => by ((try dsimp only at hW); go_simp)⟩) hHeld ?_
          try dsimp only [Act.put, List.setIfInBounds_toArray, List.set_cons_zero, List.set_cons_succ]
          refine wpAnyH_take (i := 8) (v := .bool false) rfl (by kernel_rfl) (by kernel_rfl) (by kernel_rfl) (fun _ _ _ h => h) (Or.inl ⟨by rfl, fun W hW => by ((try dsimp only at hW); go_simp)⟩) hHeld ?_
          try dsimp only [Act.put, List.setIfInBounds_toArray, List.set_cons_zero, List.set_cons_succ]
          refine wpAnyH_ready (rs := [1]) (by kernel_rfl) (by simp) ?_
          refine AllReadyH.cons rfl (fun K hK => ?_) AllReadyH.nil
          go_simp
          refine (cs _).mono ?_
          rintro e w6 ⟨rfl, rfl⟩
          go_wp2_with fail
          refine hK.out _ _ ?_ (fun hHeld => ?_)
          · first | (with_reducible assumption) | (with_reducible exact K1) | (with_reducible exact K2 _ _ _ _ _)
          clear hK K
          try dsimp only [Act.put, List.setIfInBounds_toArray, List.set_cons_zero, List.set_cons_succ]
          refine wpAnyH_take (i := 2) (v := .agg #[.int .i64 2, .string ⟨#[]⟩, .int .i64 r, .int .i64 0, .int .i64 0]) rfl (by kernel_rfl) (by kernel_rfl) (by kernel_rfl) (fun _ _ _ h => h) (Or.inl ⟨by rfl, fun W hW => by ((try dsimp only at hW); go_simp)⟩) hHeld ?_
          try dsimp only [Act.put, List.setIfInBounds_toArray, List.set_cons_zero, List.set_cons_succ]
          refine wpAnyH_take (i := 9) (v := .bool false) rfl (by kernel_rfl) (by kernel_rfl) (by kernel_rfl) (fun _ _ _ h => h) (Or.inl ⟨by rfl, fun W hW => by ((try dsimp only at hW); go_simp)⟩) hHeld ?_
          try dsimp only [Act.put, List.setIfInBounds_toArray, List.set_cons_zero, List.set_cons_succ]
          refine wpAnyH_take (i := 10) (v := undef) rfl (by kernel_rfl) (by kernel_rfl) (by kernel_rfl) (fun _ _ _ h => h) (Or.inr ⟨by rfl, rfl⟩) hHeld ?_
          try dsimp only [Act.put, List.setIfInBounds_toArray, List.set_cons_zero, List.set_cons_succ]
          refine wpAnyH_take (i := 11) (v := undef) rfl (by kernel_rfl) (by kernel_rfl) (by kernel_rfl) (fun _ _ _ h => h) (Or.inr ⟨by rfl, rfl⟩) hHeld ?_
          try dsimp only [Act.put, List.setIfInBounds_toArray, List.set_cons_zero, List.set_cons_succ]
          refine wpAnyH_take (i := 12) (v := .bool false) rfl (by kernel_rfl) (by kernel_rfl) (by kernel_rfl) (fun _ _ _ h => h) (Or.inl ⟨by rfl, fun W hW => by ((try dsimp only at hW); go_simp)⟩) hHeld ?_
          try dsimp only [Act.put, List.setIfInBounds_toArray, List.set_cons_zero, List.set_cons_succ]
          refine wpAnyH_ready (rs := [13]) (by kernel_rfl) (by simp) ?_
          refine AllReadyH.cons rfl (fun K hK => ?_) AllReadyH.nil
          go_simp
          refine hK.out _ _ ?_ (fun hHeld => ?_)
          · first | (with_reducible assumption) | (with_reducible exact K1) | (with_reducible exact K2 _ _ _ _ _)
          clear hK K
          try dsimp only [Act.put, List.setIfInBounds_toArray, List.set_cons_zero, List.set_cons_succ]
          refine wpAnyH_take (i := 14) (oi := { dst := some 3, op := .assign (.tmp 42), type := 3, pos := _, after := _, guard := none }) (v := .int .i64 ((u.size : Int) + (z : Int))) rfl (by kernel_rfl) (by kernel_rfl) (by kernel_rfl) (fun _ _ _ h => h) (Or.inl ⟨by rfl, fun W hW => by ((try dsimp only at hW); go_simp)⟩) hHeld ?_
          try dsimp only [Act.put, List.setIfInBounds_toArray, List.set_cons_zero, List.set_cons_succ]
          refine wpAnyH_take (i := 15) (oi := { dst := some 4, op := .assign (.tmp 47), type := 4, pos := _, after := _, guard := none }) (v := .bool false) rfl (by kernel_rfl) (by kernel_rfl) (by kernel_rfl) (fun _ _ _ h => h) (Or.inl ⟨by rfl, fun W hW => by ((try dsimp only at hW); go_simp)⟩) hHeld ?_
          try dsimp only [Act.put, List.setIfInBounds_toArray, List.set_cons_zero, List.set_cons_succ]
          refine wpAnyH_done (by kernel_rfl) ?_ _
          refine NoPanic.normal ?_
          go_wp2
          refine bodyPost_ret (v := .tuple #[tkA (numT r 0) 0, .int .i64 ((u.size : Int) + (z : Int)), .bool false]) ?_ rfl ⟨⟨_, rfl, ?_⟩, ?_⟩
          · simp [results, Tryz.results85, go_sem, tkA, numT, k0, k1, k2, k3, k4]
          · rw [HRes.out, if_neg (by rintro ⟨h, _⟩; cases h)]
            exact ⟨_, _, rfl⟩
          · exact (bel5 HB2.out (Nat.le_refl _) _ _ _ _ _).drew
        | true =>
          go_region_held3 (fun W => W.cell? ⟨wr.heap.size, 0, none⟩ = some (.string u)) (first | (with_reducible assumption) | (with_reducible exact K1) | (with_reducible exact K2 _ _ _ _ _)) (first | (go_at_call 100; refine (cs _).mono ?_; rintro e w6 ⟨rfl, rfl⟩))
          all_goals
            go_wp2
            refine bodyPost_ret (v := .tuple #[tkA (numT r 0) 0, .int .i64 ((u.size : Int) + (z : Int)), .bool (decide ((m : Int) ≤ 4294967295))]) ?_ rfl ⟨⟨_, rfl, ?_⟩, ?_⟩
            · simp [results, Tryz.results85, go_sem, tkA, numT, k0, k1, k2, k3, k4, JW.out]
            · rw [HRes.out]
              by_cases hm : m ≤ 4294967295
              · rw [if_pos ⟨trivial, hm⟩, decide_eq_true (by omega), HSz.out]
                rfl
              · rw [if_neg (fun h => hm h.2), decide_eq_false (by omega)]
                exact ⟨_, _, rfl⟩
            · exact (bel5 HB2.out (Nat.le_refl _) _ _ _ _ _).drew
    · obtain rfl : k = 3 := by omega
      have HN := hide (based_none l (fun j hj => hh.out.1 j hj (by omega)))
      have cn := CN.out l HL.out 10 (by omega)
      unfold numOut at cn
      obtain ⟨m, HM⟩ : ∃ m, Hid ((pd 10 false 0 l).1 = m) := ⟨_, rfl⟩
      obtain ⟨b, HBo⟩ : ∃ b, Hid (okP 10 l = b) := ⟨_, rfl⟩
      rw [HM.out, HBo.out, hs.out] at cn
      rw [HBo.out, HM.out] at HN
      obtain ⟨⟨k0, k1, k2, k3, k4⟩, f0, f1, f2, f3, f4⟩ := rez5 hh.out.2
      have HB2 := hide (((Below.refl w.heap.size w).alloc (Nat.le_refl _) Y5).trans (hh.out.2.mono (Nat.le_succ _)))
      clear ix CC CN HM HBo
      generalize hzz : ((l.length - (pd 10 false 0 l).2.length : Nat) : Int) = z at *
      have HZ := hide hzz
      clear hzz
      cases b with
      | false =>
        go_wp2_with fail
        refine (cn _).mono ?_
        rintro e w1 ⟨rfl, hw1⟩
        subst hw1
        go_wp2
        refine bodyPost_ret (v := .tuple #[tkA (numT (m : Int) 0) 0, .int .i64 z, .bool false]) ?_ rfl ⟨⟨_, rfl, ?_⟩, ?_⟩
        · simp [results, Tryz.results85, go_sem, tkA, numT, k0, k1, k2, k3, k4]
        · rw [HN.out, if_neg (by rintro ⟨h, _⟩; cases h)]; exact ⟨_, _, rfl⟩
        · exact bel5 HB2.out (Nat.le_refl _) _ _ _ _ _
      | true =>
        go_wp2_with fail
        refine (cn _).mono ?_
        rintro e w1 ⟨rfl, hw1⟩
        subst hw1
        go_wp2
        refine bodyPost_ret (v := .tuple #[tkA (numT (m : Int) 0) 0, .int .i64 z, .bool (decide ((m : Int) ≤ 2147483648))]) ?_ rfl ⟨⟨_, rfl, ?_⟩, ?_⟩
        · simp [results, Tryz.results85, go_sem, tkA, numT, k0, k1, k2, k3, k4]
        · rw [HN.out]
          by_cases hm : m ≤ 2147483648
          · rw [if_pos ⟨trivial, hm⟩, decide_eq_true (by omega)]
            show _ = _
            rw [HZ.out]
          · rw [if_neg (fun h => hm h.2), decide_eq_false (by omega)]
            exact ⟨_, _, rfl⟩
        · exact bel5 HB2.out (Nat.le_refl _) _ _ _ _ _
end Go.Proofs.YtkicbmjjbnblfaaGreatDoor
