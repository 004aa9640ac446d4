/- The contract of lex.typed. -/
import Derived.Test.YtkicbmjjbnblfaaGreatDoorTmA
namespace Go.Proofs.YtkicbmjjbnblfaaGreatDoor
open Go.RowKit
/-- an empty token's block -/
abbrev Z5 : Obj := .cells #[.int .i64 0, .string ⟨#[]⟩, .int .i64 0, .int .i64 0, .int .i64 0] 54
theorem res5 {w W : World} (h : Below (w.heap.size + 1) (w.alloc Z5) W) :
    (W.cell? ⟨w.heap.size, 0, none⟩ = some (.int .i64 0) ∧ W.cell? ⟨w.heap.size, 1, none⟩ = some (.string ⟨#[]⟩) ∧ W.cell? ⟨w.heap.size, 2, none⟩ = some (.int .i64 0) ∧ W.cell? ⟨w.heap.size, 3, none⟩ = some (.int .i64 0) ∧ W.cell? ⟨w.heap.size, 4, none⟩ = some (.int .i64 0)) ∧
    (W.frozen? ⟨w.heap.size, 0, none⟩ = false ∧ W.frozen? ⟨w.heap.size, 1, none⟩ = false ∧ W.frozen? ⟨w.heap.size, 2, none⟩ = false ∧ W.frozen? ⟨w.heap.size, 3, none⟩ = false ∧ W.frozen? ⟨w.heap.size, 4, none⟩ = false) := by
  refine ⟨⟨?_, ?_, ?_, ?_, ?_⟩, ?_, ?_, ?_, ?_, ?_⟩
  · exact (h.cell (p := ⟨w.heap.size, 0, none⟩) (by simp)).trans (by simp)
  · exact (h.cell (p := ⟨w.heap.size, 1, none⟩) (by simp)).trans (by simp)
  · exact (h.cell (p := ⟨w.heap.size, 2, none⟩) (by simp)).trans (by simp)
  · exact (h.cell (p := ⟨w.heap.size, 3, none⟩) (by simp)).trans (by simp)
  · exact (h.cell (p := ⟨w.heap.size, 4, none⟩) (by simp)).trans (by simp)
  · exact (h.frozen (p := ⟨w.heap.size, 0, none⟩) (by simp)).trans (by simp)
  · exact (h.frozen (p := ⟨w.heap.size, 1, none⟩) (by simp)).trans (by simp)
  · exact (h.frozen (p := ⟨w.heap.size, 2, none⟩) (by simp)).trans (by simp)
  · exact (h.frozen (p := ⟨w.heap.size, 3, none⟩) (by simp)).trans (by simp)
  · exact (h.frozen (p := ⟨w.heap.size, 4, none⟩) (by simp)).trans (by simp)
theorem below5L {B : Nat} {w W : World} (h : Below B w W) {g : Nat} (hg : B ≤ g) (a b c d e : Value) : Below B w (((((W.setCell ⟨g, 0, none⟩ a).setCell ⟨g, 1, none⟩ b).setCell ⟨g, 2, none⟩ c).setCell ⟨g, 3, none⟩ d).setCell ⟨g, 4, none⟩ e) :=
  ((((h.setCell hg a).setCell hg b).setCell hg c).setCell hg d).setCell hg e
theorem TabAt.set5 {w W : World} {t : List Value} {b : Nat} (h : TabAt W b t) (hb : b < w.heap.size) (a1 a2 a3 a4 a5 : Value) : TabAt (((((W.setCell ⟨w.heap.size, 0, none⟩ a1).setCell ⟨w.heap.size, 1, none⟩ a2).setCell ⟨w.heap.size, 2, none⟩ a3).setCell ⟨w.heap.size, 3, none⟩ a4).setCell ⟨w.heap.size, 4, none⟩ a5) b t := fun k v e => by
  rw [World.cell?_setCell_other _ _ _ _ (fun x => by injection x with x1 _ _; omega), World.cell?_setCell_other _ _ _ _ (fun x => by injection x with x1 _ _; omega), World.cell?_setCell_other _ _ _ _ (fun x => by injection x with x1 _ _; omega), World.cell?_setCell_other _ _ _ _ (fun x => by injection x with x1 _ _; omega), World.cell?_setCell_other _ _ _ _ (fun x => by injection x with x1 _ _; omega)]
  exact h k v e
theorem cell5 {w W : World} {p : Addr} {x : Option Value} (h : W.cell? p = x) (hb : p.block ≠ w.heap.size) (a1 a2 a3 a4 a5 : Value) : (((((W.setCell ⟨w.heap.size, 0, none⟩ a1).setCell ⟨w.heap.size, 1, none⟩ a2).setCell ⟨w.heap.size, 2, none⟩ a3).setCell ⟨w.heap.size, 3, none⟩ a4).setCell ⟨w.heap.size, 4, none⟩ a5).cell? p = x := by
  rw [World.cell?_setCell_other _ _ _ _ (fun x => hb (by rw [← x])), World.cell?_setCell_other _ _ _ _ (fun x => hb (by rw [← x])), World.cell?_setCell_other _ _ _ _ (fun x => hb (by rw [← x])), World.cell?_setCell_other _ _ _ _ (fun x => hb (by rw [← x])), World.cell?_setCell_other _ _ _ _ (fun x => hb (by rw [← x]))]
  exact h
theorem drew_cell (W : World) (p : Addr) : W.drew.cell? p = W.cell? p := rfl
theorem TabAt.drew {W : World} {b : Nat} {t : List Value} (h : TabAt W b t) : TabAt W.drew b t := fun k v e => h k v e
theorem size144 : (Tryz.prog.info? 144).map (·.size) = some 10 := by kernel_rfl
set_option maxRecDepth 100000 in
set_option maxHeartbeats 3200000 in
theorem typed_any (name l : Bs) (hl : l.length ≤ 140737488355000) (w : World) (hg : Glo w) : Calls Tryz.prog 98 #[.string ⟨name.toArray⟩, .string ⟨l.toArray⟩] w fun e w' => (∃ v, e = .returned v ∧ TokOut (typedL name l) l.length v) ∧ Below w.heap.size w w' := by
  have HG := hide hg
  have ht : ∀ o, TabAt (w.alloc o) 6 tyTab := hg.ty.alloc (by have := hg.lt; omega)
  have ix : Hid (∀ (k : Nat) (h : k < 5) W, (Instr.index 144 (.agg tyTab.toArray) (.int .i64 (k : Int))).run Tryz.prog W = .ok (.agg #[.string ⟨(tyNames[k]'h).toArray⟩, .int .i64 (tyNos[k]'h)]) W) := fun k h W => index_row Tryz.underlying144 (fun _ => Tryz.isAgg143 _) (fun _ => Tryz.sizeOf143 _) _ k h _ (ty_tab k h) W
  obtain ⟨T, hT⟩ : ∃ T, Value.agg tyTab.toArray = T := ⟨_, rfl⟩
  rw [hT] at ix
  have CV := hide fun W => value_any l hl W
  have CT := hide fun W h => timeValue_any l hl W h
  have CF := hide fun t n (h : t = 1 ∨ t = 2 ∨ t = 3 ∨ t = 4) W hW => fits_any t n h W hW
  have HL := hide hl
  obtain ⟨nm, HNm⟩ : ∃ u : ByteArray, Hid ((⟨name.toArray⟩ : ByteArray) = u) := ⟨_, rfl⟩
  rw [HNm.out]
  generalize (⟨l.toArray⟩ : ByteArray) = s at *
  clear hg hl
  go_enter Tryz.func98, Tryz.ntmps98
  go_wp2_with ((with_reducible refine at_load (ty := 144) ?_); go_must (refine load_tab (b := 6) (t := tyTab) (T := T) rfl (ht _) hT Tryz.underlying144 rfl size144 ?_))
  clear ht hT
  go_loopw [14] (fun i wr => ∃ k : Nat, k ≤ 5 ∧ i = .int .i64 (k : Int) ∧ Hid (name ∉ tyNames.take k ∧ Below (w.heap.size + 1) (w.alloc Z5) wr)) (fun i _ => 5 - (intOf i).toNat)
  case atStart => exact ⟨0, by omega, rfl, by simp, Below.refl _ _⟩
  case round =>
    obtain ⟨k, hk, rfl, hh⟩ := hrel
    by_cases hlt : k < 5
    · have x0 := ix.out k hlt
      have i1 : (k : Int) < 5 := by omega
      have HT := hide (ty_at k hlt l)
      have HNo := hide (ty_no k hlt)
      have HTk := hide (show tyNames.take (k + 1) = tyNames.take k ++ [tyNames[k]'hlt] from (List.take_append_getElem (show k < tyNames.length from hlt)).symm)
      generalize (tyNames[k]'hlt) = U at *
      generalize (tyNos[k]'hlt) = ty at *
      obtain ⟨u, HU⟩ : ∃ u : ByteArray, Hid ((⟨U.toArray⟩ : ByteArray) = u) := ⟨_, rfl⟩
      rw [HU.out] at x0
      have HE : Hid ((u.toList == nm.toList) = decide (name = U)) := by
        show _ = _
        rw [beq_textL, ← HU.out, ← HNm.out]
        by_cases e : name = U
        · rw [e, decide_eq_true rfl, decide_eq_true rfl]
        · rw [decide_eq_false e, decide_eq_false]
          intro h
          apply e
          have := congrArg (fun x : ByteArray => x.data.toList) h
          simpa using this.symm
      have zr := hh.out.2.size
      rw [World.size_alloc] at zr
      have HB := hide ((Below.refl w.heap.size w).alloc (Nat.le_refl _) _ |>.trans (hh.out.2.mono (Nat.le_succ _)))
      clear ix
      by_cases e : name = U
      · have e1 : (u.toList == nm.toList) = true := by rw [HE.out]; exact decide_eq_true e
        have HR := hide (show typedL name l = _ from e ▸ HT.out)
        clear HE HT HTk e
        have B1 := hh.out.2.alloc (by omega) (.cells #[.string u, .int .i64 ty] 143)
        have GB := HG.out.below (((Below.refl w.heap.size w).alloc (Nat.le_refl _) Z5).trans (B1.mono (Nat.le_succ _))) HG.out.lt
        have d1 : (wr.alloc (.cells #[.string u, .int .i64 ty] 143)).cell? ⟨wr.heap.size, 1, none⟩ = some (.int .i64 ty) := by simp
        rcases HNo.out with rfl | hty
        · have HR2 := hide HR.out
          rw [if_pos rfl] at HR2
          clear HR
          go_wp2_with fail
          refine (CT.out _ GB).mono ?_
          rintro e w1 ⟨⟨v, rfl, hv⟩, hb1⟩
          obtain ⟨n, z, b, rfl, hrv⟩ := typedT_val l hv
          rw [← HR2.out] at hrv
          have HRV := hide hrv
          clear hrv hv HR2
          have B2 := B1.trans (hb1.mono (by simp; omega))
          have d2 := (hb1.cell (p := ⟨wr.heap.size, 1, none⟩) (by simp)).trans d1
          have TS := (GB.below hb1 GB.lt).span
          obtain ⟨⟨k0, k1, k2, k3, k4⟩, f0, f1, f2, f3, f4⟩ := res5 B2
          have CF2 : Hid (∀ W, TabAt W 3 spanTab → Calls Tryz.prog 65 #[.int .i64 4, .int .i64 n] W fun e w' => e = .returned (.bool (fitB 4 n)) ∧ w' = W) := fun W h => CF.out 4 n (by omega) W h
          have HB2 := hide (((Below.refl w.heap.size w).alloc (Nat.le_refl _) Z5).trans (B2.mono (Nat.le_succ _)))
          have hne : wr.heap.size ≠ w.heap.size := by omega
          have h5 : 5 < w.heap.size := (by have := HG.out.lt; omega)
          have K0 : w1.cell? ⟨wr.heap.size, 1, none⟩ = some (.int .i64 4) ∧ TabAt w1 3 spanTab := ⟨d2, TS⟩
          have K1 : w1.drew.cell? ⟨wr.heap.size, 1, none⟩ = some (.int .i64 4) ∧ TabAt w1.drew 3 spanTab := ⟨(drew_cell _ _).trans d2, TS.drew⟩
          have K2 : ∀ a1 a2 a3 a4 a5, (((((w1.setCell ⟨w.heap.size, 0, none⟩ a1).setCell ⟨w.heap.size, 1, none⟩ a2).setCell ⟨w.heap.size, 2, none⟩ a3).setCell ⟨w.heap.size, 3, none⟩ a4).setCell ⟨w.heap.size, 4, none⟩ a5).drew.cell? ⟨wr.heap.size, 1, none⟩ = some (.int .i64 4) ∧ TabAt (((((w1.setCell ⟨w.heap.size, 0, none⟩ a1).setCell ⟨w.heap.size, 1, none⟩ a2).setCell ⟨w.heap.size, 2, none⟩ a3).setCell ⟨w.heap.size, 3, none⟩ a4).setCell ⟨w.heap.size, 4, none⟩ a5).drew 3 spanTab := fun a1 a2 a3 a4 a5 => ⟨(drew_cell _ _).trans (cell5 d2 hne a1 a2 a3 a4 a5), (TS.set5 (Nat.lt_trans (by decide : 3 < 5) h5) a1 a2 a3 a4 a5).drew⟩
          clear hb1 B1 GB d1 CT CV B2 HG HB hh CF HNo x0 i1
          go_upto_region 9 with fail
          cases b with
          | false =>
            clear CF2 TS K0 K1 K2 hne h5
            first | (go_region_with (fail)) | fail
            all_goals
              go_wp2
              refine bodyPost_ret (v := .tuple #[tkA (numT n 4) 0, .int .i64 z, .bool false]) ?_ rfl ⟨⟨_, rfl, ?_⟩, ?_⟩
              · simp [results, Tryz.results98, go_sem, tkA, numT, k0, k1, k2, k3, k4]
              · rcases HRV.out with ⟨r1, r2, r, r3, r4⟩ | ⟨r1, r2⟩
                · first
                    | (cases r1; done)
                    | (rw [r3, r4, r2]; rfl)
                · rw [r2]
                  first
                    | exact ⟨_, _, rfl⟩
                    | (rw [Bool.true_and] at r1; rw [r1]; exact ⟨_, _, rfl⟩)
              · exact (below5L HB2.out (Nat.le_refl _) _ _ _ _ _).drew
          | true =>
            go_region_held3 (fun W => W.cell? ⟨wr.heap.size, 1, none⟩ = some (.int .i64 4) ∧ TabAt W 3 spanTab) (first | (with_reducible assumption) | (with_reducible exact K1) | (with_reducible exact K2 _ _ _ _ _) | (with_reducible exact K0)) (first | (go_at_call 65; refine (CF2.out _ (by first | (with_reducible exact K1.2) | (with_reducible exact TS))).mono ?_; rintro e w6 ⟨rfl, rfl⟩))
            all_goals
              go_wp2
              refine bodyPost_ret (v := .tuple #[tkA (numT n 4) 0, .int .i64 z, .bool (fitB 4 n)]) ?_ rfl ⟨⟨_, rfl, ?_⟩, ?_⟩
              · simp [results, Tryz.results98, go_sem, tkA, numT, k0, k1, k2, k3, k4]
              · rcases HRV.out with ⟨r1, r2, r, r3, r4⟩ | ⟨r1, r2⟩
                · first
                    | (cases r1; done)
                    | (rw [r3, r4, r2]; rfl)
                · rw [r2]
                  first
                    | exact ⟨_, _, rfl⟩
                    | (rw [Bool.true_and] at r1; rw [r1]; exact ⟨_, _, rfl⟩)
              · exact (below5L HB2.out (Nat.le_refl _) _ _ _ _ _).drew
        · have hty4 : (ty == 4) = false := by rw [beq_eq_false_iff_ne]; omega
          have HR2 := hide HR.out
          rw [if_neg (by omega)] at HR2
          obtain ⟨n, z, b, hv, hrv, _⟩ := typedN_val hty l
          rw [← HR2.out] at hrv
          have HRV := hide hrv
          have cv := CV.out
          rw [hv] at cv
          clear hrv HR HR2 hv
          go_wp2_with fail
          refine (cv _).mono ?_
          rintro e w1 ⟨rfl, hw1⟩
          have hb1 : Below (wr.alloc (.cells #[.string u, .int .i64 ty] 143)).heap.size (wr.alloc (.cells #[.string u, .int .i64 ty] 143)) w1 := by rw [hw1]; exact Below.refl _ _
          clear hw1 cv
          have B2 := B1.trans (hb1.mono (by simp; omega))
          have d2 := (hb1.cell (p := ⟨wr.heap.size, 1, none⟩) (by simp)).trans d1
          have TS := (GB.below hb1 GB.lt).span
          obtain ⟨⟨k0, k1, k2, k3, k4⟩, f0, f1, f2, f3, f4⟩ := res5 B2
          have CF2 : Hid (∀ W, TabAt W 3 spanTab → Calls Tryz.prog 65 #[.int .i64 ty, .int .i64 n] W fun e w' => e = .returned (.bool (fitB ty n)) ∧ w' = W) := fun W h => CF.out ty n (by omega) W h
          have HB2 := hide (((Below.refl w.heap.size w).alloc (Nat.le_refl _) Z5).trans (B2.mono (Nat.le_succ _)))
          have hne : wr.heap.size ≠ w.heap.size := by omega
          have h5 : 5 < w.heap.size := (by have := HG.out.lt; omega)
          have K0 : w1.cell? ⟨wr.heap.size, 1, none⟩ = some (.int .i64 ty) ∧ TabAt w1 3 spanTab := ⟨d2, TS⟩
          have K1 : w1.drew.cell? ⟨wr.heap.size, 1, none⟩ = some (.int .i64 ty) ∧ TabAt w1.drew 3 spanTab := ⟨(drew_cell _ _).trans d2, TS.drew⟩
          have K2 : ∀ a1 a2 a3 a4 a5, (((((w1.setCell ⟨w.heap.size, 0, none⟩ a1).setCell ⟨w.heap.size, 1, none⟩ a2).setCell ⟨w.heap.size, 2, none⟩ a3).setCell ⟨w.heap.size, 3, none⟩ a4).setCell ⟨w.heap.size, 4, none⟩ a5).drew.cell? ⟨wr.heap.size, 1, none⟩ = some (.int .i64 ty) ∧ TabAt (((((w1.setCell ⟨w.heap.size, 0, none⟩ a1).setCell ⟨w.heap.size, 1, none⟩ a2).setCell ⟨w.heap.size, 2, none⟩ a3).setCell ⟨w.heap.size, 3, none⟩ a4).setCell ⟨w.heap.size, 4, none⟩ a5).drew 3 spanTab := fun a1 a2 a3 a4 a5 => ⟨(drew_cell _ _).trans (cell5 d2 hne a1 a2 a3 a4 a5), (TS.set5 (Nat.lt_trans (by decide : 3 < 5) h5) a1 a2 a3 a4 a5).drew⟩
          clear hb1 B1 GB d1 CT CV B2 HG HB hh CF HNo x0 i1
          go_upto_region 9 with fail
          cases b with
          | false =>
            clear CF2 TS K0 K1 K2 hne h5
            first | (go_region_with (fail)) | fail
            all_goals
              go_wp2
              refine bodyPost_ret (v := .tuple #[tkA (numT n ty) 0, .int .i64 z, .bool false]) ?_ rfl ⟨⟨_, rfl, ?_⟩, ?_⟩
              · simp [results, Tryz.results98, go_sem, tkA, numT, k0, k1, k2, k3, k4]
              · rcases HRV.out with ⟨r1, r2, r, r3, r4⟩ | ⟨r1, r2⟩
                · first
                    | (cases r1; done)
                    | (rw [r3, r4, r2]; rfl)
                · rw [r2]
                  first
                    | exact ⟨_, _, rfl⟩
                    | (rw [Bool.true_and] at r1; rw [r1]; exact ⟨_, _, rfl⟩)
              · exact (below5L HB2.out (Nat.le_refl _) _ _ _ _ _).drew
          | true =>
            go_region_held3 (fun W => W.cell? ⟨wr.heap.size, 1, none⟩ = some (.int .i64 ty) ∧ TabAt W 3 spanTab) (first | (with_reducible assumption) | (with_reducible exact K1) | (with_reducible exact K2 _ _ _ _ _) | (with_reducible exact K0)) (first | (go_at_call 65; refine (CF2.out _ (by first | (with_reducible exact K1.2) | (with_reducible exact TS))).mono ?_; rintro e w6 ⟨rfl, rfl⟩))
            all_goals
              go_wp2
              refine bodyPost_ret (v := .tuple #[tkA (numT n ty) 0, .int .i64 z, .bool (fitB ty n)]) ?_ rfl ⟨⟨_, rfl, ?_⟩, ?_⟩
              · simp [results, Tryz.results98, go_sem, tkA, numT, k0, k1, k2, k3, k4]
              · rcases HRV.out with ⟨r1, r2, r, r3, r4⟩ | ⟨r1, r2⟩
                · first
                    | (cases r1; done)
                    | (rw [r3, r4, r2]; rfl)
                · rw [r2]
                  first
                    | exact ⟨_, _, rfl⟩
                    | (rw [Bool.true_and] at r1; rw [r1]; exact ⟨_, _, rfl⟩)
              · exact (below5L HB2.out (Nat.le_refl _) _ _ _ _ _).drew
      · have e1 : (u.toList == nm.toList) = false := by rw [HE.out]; exact decide_eq_false e
        have HN2 := hide (show name ∉ tyNames.take (k + 1) by
          rw [HTk.out]
          intro h
          rcases List.mem_append.1 h with h | h
          · exact hh.out.1 h
          · exact e (List.mem_singleton.1 h))
        clear HE HT HTk e CV CT CF
        go_wp2
        go_roundw
        case rel => exact ⟨k + 1, by omega, by go_num, HN2.out, hh.out.2.alloc (by omega) _⟩
        case measure => simp only [intOf]; omega
    · obtain rfl : k = 5 := by omega
      have HN := hide (ty_none (name := name) (fun h => hh.out.1 (by rw [List.take_of_length_le (by decide)]; exact h)) l)
      have HB := hide ((Below.refl w.heap.size w).alloc (Nat.le_refl _) _ |>.trans (hh.out.2.mono (Nat.le_succ _)))
      obtain ⟨⟨k0, k1, k2, k3, k4⟩, f0, f1, f2, f3, f4⟩ := res5 hh.out.2
      clear ix CV CT CF
      go_wp2
      refine bodyPost_ret (v := .tuple #[tkA ⟨0, [], 0, 0⟩ 0, .int .i64 0, .bool false]) ?_ rfl ⟨⟨_, rfl, ?_⟩, ?_⟩
      · simp [results, Tryz.results98, go_sem, tkA, k0, k1, k2, k3, k4]
      · rw [HN.out]; exact ⟨_, _, rfl⟩
      · exact below5L HB.out (Nat.le_refl _) _ _ _ _ _
end Go.Proofs.YtkicbmjjbnblfaaGreatDoor
