/- The contract of lex.unitOf. -/
import Derived.Test.YtkicbmjjbnblfaaGreatDoorSigA
import Derived.Deep.CutRange
import Derived.Deep.RegionHeld3
namespace Go.Proofs.YtkicbmjjbnblfaaGreatDoor
open Go.RowKit
theorem slice_to (s : ByteArray) (n : Nat) (h : n ≤ s.size) (W : World) : (Instr.slice 9 (.string s) none (some (.int .i64 (n : Int))) none).run Tryz.prog W = .ok (.string ⟨(s.data.toList.take n).toArray⟩) W := by
  rw [run_slice_string_to_if _ _ _ _ _ Tryz.underlying9, if_pos ⟨by omega, by omega⟩, Int.toNat_natCast, of_list _ _ (mid_text s 0 n)]
  rfl
def unitNames : List Bs := [[68], [72], [77], [83], [77, 83]]
theorem unit_tab (k : Nat) (h : k < 5) : unitTab.toArray.extract (k * 2) (k * 2 + 2) = #[.string ⟨(unitNames[k]'h).toArray⟩, .int .i64 ((unitW k : Nat) : Int)] := by
  have : k = 0 ∨ k = 1 ∨ k = 2 ∨ k = 3 ∨ k = 4 := by omega
  rcases this with rfl | rfl | rfl | rfl | rfl <;> rfl
/-- the last of the first k units with which a text begins -/
def unitF (l : Bs) : Nat → Int
  | 0 => -1
  | k + 1 => if h : k < 5 then (if upL (l.take (unitNames[k]'h).length) = unitNames[k]'h then (k : Int) else unitF l k) else unitF l k
theorem size154 : (Tryz.prog.info? 154).map (·.size) = some 10 := by kernel_rfl
theorem beq_textL (a b : ByteArray) : (a.toList == b.toList) = decide (a = b) := by
  rw [ByteArray.toList_eq, ByteArray.toList_eq]
  by_cases h : a = b
  · rw [h, decide_eq_true rfl]; exact beq_self_eq_true _
  · rw [decide_eq_false h, beq_eq_false_iff_ne]; exact fun e => h (text_ext e)
set_option maxRecDepth 100000 in
set_option maxHeartbeats 3200000 in
theorem unitOf_any (l : Bs) (w : World) (hg : Glo w) : Calls Tryz.prog 117 #[.string ⟨l.toArray⟩] w fun e w' => e = .returned (.int .i64 (unitF l 5)) ∧ Below w.heap.size w w' := by
  have ht := hg.unit
  have ix : Hid (∀ (k : Nat) (h : k < 5) W, (Instr.index 154 (.agg unitTab.toArray) (.int .i64 (k : Int))).run Tryz.prog W = .ok (.agg #[.string ⟨(unitNames[k]'h).toArray⟩, .int .i64 ((unitW k : Nat) : Int)]) W) := fun k h W => index_row Tryz.underlying154 (fun _ => Tryz.isAgg153 _) (fun _ => Tryz.sizeOf153 _) _ k h _ (unit_tab k h) W
  obtain ⟨T, hT⟩ : ∃ T, Value.agg unitTab.toArray = T := ⟨_, rfl⟩
  rw [hT] at ix
  have hsz := hide (list_size l)
  have HC := hide fun (n : Nat) (hn : n ≤ 2) (W : World) => upper_any (l.take n) (by rw [List.length_take]; omega) W
  have HX : Hid (∀ (n : Nat), n ≤ l.length → ∀ W : World, (Instr.slice 9 (.string ⟨l.toArray⟩) none (some (.int .i64 (n : Int))) none).run Tryz.prog W = .ok (.string ⟨(l.take n).toArray⟩) W) := fun n h W => slice_to ⟨l.toArray⟩ n (by rw [list_size]; exact h) W
  generalize (⟨l.toArray⟩ : ByteArray) = s at *
  clear hg
  go_enter Tryz.func117, Tryz.ntmps117
  go_wp2_with ((with_reducible refine at_load (ty := 154) ?_); go_must (refine load_tab (b := 8) (t := unitTab) (T := T) rfl ht hT Tryz.underlying154 rfl size154 ?_))
  clear ht hT
  go_loopw [3, 7] (fun f i wr => ∃ k : Nat, k ≤ 5 ∧ i = .int .i64 (k : Int) ∧ f = .int .i64 (unitF l k) ∧ Hid (Below w.heap.size w wr)) (fun _ i _ => 5 - (intOf i).toNat)
  case atStart => exact ⟨0, by omega, rfl, rfl, Below.refl _ _⟩
  case round =>
    obtain ⟨k, hk, rfl, rfl, hb⟩ := hrel
    by_cases hlt : k < 5
    · have x0 := ix.out k hlt
      have i1 : (k : Int) < 5 := by omega
      have HF := hide (show unitF l (k + 1) = if upL (l.take (unitNames[k]'hlt).length) = unitNames[k]'hlt then (k : Int) else unitF l k by rw [unitF, dif_pos hlt])
      have hU : (unitNames[k]'hlt).length ≤ 2 := (show ∀ g ∈ unitNames, g.length ≤ 2 by decide) _ (List.getElem_mem _)
      have hU0 : 0 < (unitNames[k]'hlt).length := (show ∀ g ∈ unitNames, 0 < g.length by decide) _ (List.getElem_mem _)
      have hlen := hide (list_size (unitNames[k]'hlt))
      generalize (unitNames[k]'hlt) = U at *
      obtain ⟨u, HU⟩ : ∃ u : ByteArray, Hid ((⟨U.toArray⟩ : ByteArray) = u) := ⟨_, rfl⟩
      rw [HU.out] at x0 hlen
      have u2 : (u.size : Int) ≤ 2 := by have := hlen.out; omega
      generalize ((unitW k : Nat) : Int) = m at *
      have zr := hb.out.size
      have y0 : (wr.alloc (.cells #[.string u, .int .i64 m] 153)).cell? ⟨wr.heap.size, 0, none⟩ = some (.string u) := by simp
      have B2 := hide (hb.out.alloc zr (.cells #[.string u, .int .i64 m] 153))
      clear ix hb
      go_upto_region 5 with fail
      generalize wr.alloc (.cells #[.string u, .int .i64 m] 153) = W2 at *
      by_cases hle : U.length ≤ l.length
      · have i2 : (u.size : Int) ≤ (s.size : Int) := by have := hlen.out; have := hsz.out; omega
        have xs := HX.out U.length hle
        have cu := HC.out U.length hU
        rw [show (U.length : Int) = (u.size : Int) by have := hlen.out; omega] at xs
        generalize (⟨(l.take U.length).toArray⟩ : ByteArray) = t at *
        obtain ⟨v, HV⟩ : ∃ v : ByteArray, Hid ((⟨(upL (l.take U.length)).toArray⟩ : ByteArray) = v) := ⟨_, rfl⟩
        rw [HV.out] at cu
        have CT : Hid (∀ W, W.cell? ⟨wr.heap.size, 0, none⟩ = some (.string u) ∧ Below w.heap.size w W → Calls Tryz.prog 96 #[.string t] W fun e w' => e = .returned (.string v) ∧ (w'.cell? ⟨wr.heap.size, 0, none⟩ = some (.string u) ∧ Below w.heap.size w w')) := fun W h =>
          (cu W).mono fun e w' ⟨h1, h2⟩ => ⟨h1, (h2.cell (p := ⟨wr.heap.size, 0, none⟩) (World.block_lt_of_cell? W _ h.1)).trans h.1, h.2.trans (h2.mono h.2.size)⟩
        have S0 : W2.cell? ⟨wr.heap.size, 0, none⟩ = some (.string u) ∧ Below w.heap.size w W2 := ⟨y0, B2.out⟩
        have HB : Hid ((v.toList == u.toList) = decide (upL (l.take U.length) = U)) := by
          show _ = _
          rw [beq_textL, ← HV.out, ← HU.out]
          by_cases e : upL (l.take U.length) = U
          · rw [e, decide_eq_true rfl, decide_eq_true rfl]
          · rw [decide_eq_false e, decide_eq_false]
            intro h
            apply e
            have := congrArg (fun x : ByteArray => x.data.toList) h
            simpa using this
        clear cu HC HX y0 B2
        go_cut [27] from 11 to 27 (fun c wx => c = .bool (v.toList == u.toList) ∧ Below w.heap.size w wx)
        case first =>
          go_region_held3 (fun W => W.cell? ⟨wr.heap.size, 0, none⟩ = some (.string u) ∧ Below w.heap.size w W) (first | assumption | exact ⟨S0.1, S0.2.drew⟩) (first | (go_at_call 96; refine (CT.out _ ?_).mono ?_; assumption; rintro e w6 ⟨rfl, hb6⟩))
          all_goals (go_wp2_with fail; go_meet; exact ⟨rfl, (by assumption : _ ∧ _).2⟩)
        case rest =>
        obtain ⟨rfl, b7⟩ := hcut
        have B7 := hide b7
        clear b7 CT S0
        rw [HB.out]
        by_cases e : upL (l.take U.length) = U
        · rw [decide_eq_true e]
          have HF2 := hide HF.out
          rw [if_pos e] at HF2
          clear HB HF e
          go_wp2
          go_roundw
          case rel => exact ⟨k + 1, by omega, by go_num, by rw [HF2.out], B7.out⟩
          case measure => simp only [intOf]; omega
        · rw [decide_eq_false e]
          have HF2 := hide HF.out
          rw [if_neg e] at HF2
          clear HB HF e
          go_wp2
          go_roundw
          case rel => exact ⟨k + 1, by omega, by go_num, by rw [HF2.out], B7.out⟩
          case measure => simp only [intOf]; omega
      · have i2 : ¬ (u.size : Int) ≤ (s.size : Int) := by have := hlen.out; have := hsz.out; omega
        have HF2 := hide HF.out
        rw [if_neg (fun e => hle (by have h := congrArg List.length e; rw [up_length, List.length_take] at h; omega))] at HF2
        clear HF HC HX
        go_quiet (fail)
        go_wp2
        go_roundw
        case rel => exact ⟨k + 1, by omega, by go_num, by rw [HF2.out], below_drawn B2.out _⟩
        case measure => simp only [intOf]; omega
    · obtain rfl : k = 5 := by omega
      clear ix HC HX
      go_wp2
      go_ret
      exact ⟨rfl, hb.out⟩
end Go.Proofs.YtkicbmjjbnblfaaGreatDoor
