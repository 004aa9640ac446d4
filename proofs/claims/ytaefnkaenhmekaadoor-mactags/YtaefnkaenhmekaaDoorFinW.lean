/- The contract of sha.finish: the state behind the padding. -/
import Derived.Test.YtaefnkaenhmekaaDoorHash
import Derived.Deep.DeepMust
namespace Go.Proofs.YtaefnkaenhmekaaDoor
open Go.RowKit
attribute [local go_sem] wrap_V wrap_add bits_xor bits_and bits_or bits_not
attribute [local go_sem ↓] shl_any shr_any wrap_u8_V
def TakeSaid : Prop := ∀ (s : St) (bl : List UInt8) (_ : bl.length = 64) (w : World) (_ : Tab w) (_ : 0 < w.heap.size),
    Calls Tryd.prog 33 #[.agg (encS s), .agg (bl.map encB).toArray] w fun e w' => e = .returned (.agg (encS (takeB s bl))) ∧ Below w.heap.size w w'
theorem z43 : (Tryd.prog.info? 48).map (·.size) = some 8 := by kernel_rfl
theorem z44 : (Tryd.prog.info? 46).map (·.size) = some 64 := by kernel_rfl
/-- while the padding is laid -/
def FI (w wr : World) (s : St) (tl : List UInt8) (n : Nat) : Prop :=
  HB wr w.heap.size s tl n ∧ (∃ z, wr.heap[w.heap.size + 1]? = some (.cells z 48 (0, 0)) ∧ z.size = 8) ∧ Below w.heap.size w wr
theorem FI.setT {w wr : World} {s : St} {tl : List UInt8} {n : Nat} (h : FI w wr s tl n) (i : Nat) (hi : i < 64) (x : UInt8) : FI w (wr.setCell ⟨w.heap.size, 8 + i, none⟩ (.int .u8 (x.toNat : Int))) s (tl.set i x) n :=
  ⟨h.1.setT i hi x, by rw [heap_setCell_other _ _ _ _ (by simp)]; exact h.2.1, h.2.2.setCell (by simp) _⟩
theorem FI.start (w : World) (s : St) (tl : List UInt8) (n : Nat) (ht : tl.length = 64) (z : Array Value) (hz : z.size = 8) : FI w ((w.alloc (.cells (encH s tl n) 50)).alloc (.cells z 48)) s tl n := by
  refine ⟨⟨?_, ht⟩, ⟨z, ?_, hz⟩, ((Below.refl _ _).alloc (Nat.le_refl _) _).alloc (by simp) _⟩
  · rw [heap_alloc_old _ _ (by simp), heap_alloc_new]
  · rw [show w.heap.size + 1 = (w.alloc (.cells (encH s tl n) 50)).heap.size from by simp, heap_alloc_new]
theorem FI.below {w wr w1 : World} {s : St} {tl : List UInt8} {n : Nat} (h : FI w wr s tl n) (hb : Below wr.heap.size wr w1) : FI w w1 s tl n := by
  obtain ⟨h1, ⟨z, h2, h3⟩, h4⟩ := h
  have l1 := lt_of_block h2
  exact ⟨h1.other (hb.block _ (by omega)), ⟨z, (hb.block _ l1).trans h2, h3⟩, h4.trans (hb.mono (by omega))⟩
theorem FI.setS {w wr : World} {s : St} {tl : List UInt8} {n : Nat} (h : FI w wr s tl n) (s' : St) : FI w (wr.setCells w.heap.size 0 (encS s').toList) s' tl n :=
  ⟨h.1.setS s', by rw [heap_setCells_other _ _ (by omega)]; exact h.2.1, h.2.2.trans (below_setCells _ _ (Nat.le_refl _) _ _ _)⟩
theorem FI.setTl {w wr : World} {s : St} {tl : List UInt8} {n : Nat} (h : FI w wr s tl n) (tl' : List UInt8) (hl : tl'.length = 64) : FI w (wr.setCells w.heap.size 8 (tl'.map encB)) s tl' n :=
  ⟨h.1.setTl tl' hl, by rw [heap_setCells_other _ _ (by omega)]; exact h.2.1, h.2.2.trans (below_setCells _ _ (Nat.le_refl _) _ _ _)⟩
theorem FI.tab {w wr : World} {s : St} {tl : List UInt8} {n : Nat} (h : FI w wr s tl n) (hT : Tab w) (h0 : 0 < w.heap.size) : Tab wr ∧ 0 < wr.heap.size := ⟨hT.below h.2.2 h0, by have := h.2.2.size; omega⟩
theorem len_form (n j : Nat) (h : 56 ≤ j) (hj : j ≤ 63) : (n : Int) * 8 / 2 ^ (8 * (63 - j)) % 256 = ((lenB n (j - 56)).toNat : Int) := by
  unfold lenB
  rw [show 7 - (j - 56) = 63 - j from by omega, show (n : Int) * 8 = ((8 * n : Nat) : Int) from by omega]
  simp
def z64 : List UInt8 := List.replicate 64 0
theorem z64_lit : Value.agg #[.int .u8 0, .int .u8 0, .int .u8 0, .int .u8 0, .int .u8 0, .int .u8 0, .int .u8 0, .int .u8 0, .int .u8 0, .int .u8 0, .int .u8 0, .int .u8 0, .int .u8 0, .int .u8 0, .int .u8 0, .int .u8 0, .int .u8 0, .int .u8 0, .int .u8 0, .int .u8 0, .int .u8 0, .int .u8 0, .int .u8 0, .int .u8 0, .int .u8 0, .int .u8 0, .int .u8 0, .int .u8 0, .int .u8 0, .int .u8 0, .int .u8 0, .int .u8 0, .int .u8 0, .int .u8 0, .int .u8 0, .int .u8 0, .int .u8 0, .int .u8 0, .int .u8 0, .int .u8 0, .int .u8 0, .int .u8 0, .int .u8 0, .int .u8 0, .int .u8 0, .int .u8 0, .int .u8 0, .int .u8 0, .int .u8 0, .int .u8 0, .int .u8 0, .int .u8 0, .int .u8 0, .int .u8 0, .int .u8 0, .int .u8 0, .int .u8 0, .int .u8 0, .int .u8 0, .int .u8 0, .int .u8 0, .int .u8 0, .int .u8 0, .int .u8 0] = .agg (z64.map encB).toArray := rfl
def BI (w wr : World) (s' : St) (b : List UInt8) (n j : Nat) : Prop := FI w wr s' (P2 b n (j - 56)) n
set_option maxRecDepth 100000 in
set_option maxHeartbeats 1600000 in
theorem finish_any (hT : TakeSaid) (s : St) (tl : List UInt8) (ht : tl.length = 64) (n : Nat) (hn : n < 1152921504606846976) (w : World) (hTab : Tab w) (h0 : 0 < w.heap.size) :
    Calls Tryd.prog 35 #[.agg (encH s tl n)] w fun e w' => e = .returned (.agg (encS (finT s (tl.take (n % 64)) n))) ∧ Below w.heap.size w w' := by
  obtain ⟨u, hu⟩ : ∃ u, u = n % 64 := ⟨_, rfl⟩
  have hu64 : u < 64 := by omega
  rw [← hu]
  have hrem : (n : Int) % 64 = (u : Int) := by omega
  have hst : Hid (∀ z : Array Value, z.size = 8 → FI w ((w.alloc (.cells ((encH s tl n).setIfInBounds (8 + u) (.int .u8 128)) 50)).alloc (.cells z 48)) s (P1 tl u (u + 1)) n) := fun z hz => by
    rw [show (.int .u8 128 : Value) = .int .u8 (((128 : UInt8)).toNat : Int) from rfl, set_tail _ _ _ _ _ (by omega), P1_start _ _ (by omega)]
    exact FI.start w s _ n (P1_length _ _ _ ht (by omega) (by omega)) z hz
  have hA72 := encH_len s tl n ht
  obtain ⟨v, hAu⟩ : ∃ v, (encH s tl n)[8 + u]? = some v := ⟨_, Array.getElem?_eq_getElem (by rw [encH_size _ _ _ ht]; omega)⟩
  generalize encH s tl n = A at *
  have HU : Hid (u = n % 64) := hu
  have HT : Hid TakeSaid := hT
  have HTab : Hid (Tab w) := hTab
  clear hu hT hTab
  have i0 : (0 : Int) ≤ (u : Int) := by omega
  have i1 : (u : Int) < 64 := by omega
  have i2 : (n : Int) < 1152921504606846976 := by omega
  go_enter Tryd.func35, Tryd.ntmps35
  go_wp2_with fail
  rw [hrem]
  clear hrem hA72 hAu
  go_loopw [4] (fun i wr => ∃ k : Nat, u < k ∧ k ≤ 64 ∧ i = .int .i64 k ∧ FI w wr s (P1 tl u k) n) (fun i _ => 64 - (intOf i).toNat)
  case atStart => exact ⟨u + 1, by omega, by omega, rfl, hst.out _ rfl⟩
  case round =>
    clear hst
    obtain ⟨k, hk0, hk, rfl, hF⟩ := hrel
    by_cases hlt : k < 64
    · have j0 : (0 : Int) ≤ (k : Int) := by omega
      have j1 : (k : Int) < 64 := by omega
      obtain ⟨v, hv⟩ := hF.1.some (8 + k) (by omega)
      have hf := hF.1.free (8 + k)
      have hS := hF.setT k hlt 0
      rw [P1_step _ _ _ ht hk0 hlt] at hS
      go_wp2
      go_roundw
      case rel => exact ⟨k + 1, by omega, by omega, by go_num, hS⟩
      case measure => simp [intOf]; omega
    · have hF64 : FI w wr s (padT (tl.take u)) n := by
        have e : k = 64 := by omega
        rw [e, P1_end _ _ ht hu64] at hF; exact hF
      have i5 : ¬ (k : Int) < 64 := by omega
      clear hF hk0 hk hlt
      generalize (k : Int) = k64 at *
      clear k
      have hpl : (padT (tl.take u)).length = 64 := hF64.1.2
      by_cases h56 : 56 ≤ u
      · have i6 : (56 : Int) ≤ (u : Int) := by omega
        have hfin : Hid (finT s (tl.take u) n = takeB (takeB s (padT (tl.take u))) (z64.take 56 ++ lens n 8)) := by
          unfold finT; rw [if_pos (by rw [List.length_take]; omega)]; exact rfl
        obtain ⟨hTw, hw0⟩ := hF64.tab HTab.out h0
        have hcall1 : Calls Tryd.prog 33 #[.agg (encS s), .agg ((padT (tl.take u)).map encB).toArray] wr fun e w' => e = .returned (.agg (encS (takeB s (padT (tl.take u))))) ∧ Below wr.heap.size wr w' := HT.out s _ hpl wr hTw hw0
        generalize takeB s (padT (tl.take u)) = s1 at *
        generalize padT (tl.take u) = b1 at *
        have r0 : wr.rangeAt w.heap.size 0 (encS s).toList := range_state hF64.1.1
        have r8 : wr.rangeAt w.heap.size 8 (b1.map encB) := range_tail hF64.1.1
        have y43 : (Tryd.prog.info? 48).map (·.size) = some (encS s).toList.length := z43
        have y44 : (Tryd.prog.info? 46).map (·.size) = some (b1.map encB).length := by rw [List.length_map, hpl]; exact z44
        have x43 : (Tryd.prog.info? 48).map (·.size) = some (encS s1).size := z43
        have x44 : (Tryd.prog.info? 46).map (·.size) = some (z64.map encB).toArray.size := z44
        have o43 : (encS s1).all (·.oneCell') = true := by simp [encS, Value.oneCell']
        have o44 : (z64.map encB).toArray.all (·.oneCell') = true := all_oneCell_encB _
        have hpl0 : z64.length = 64 := rfl
        have HF : Hid (FI w wr s b1 n) := hF64
        clear hF64 hTw hw0
        go_wp2_with (first
          | ((with_reducible refine at_load (dst := some 25) ?_); go_must (refine loadm_arm 25 48 (.tmp 24) _ _ _ _ _ r0 Tryd.underlying48 y43 rfl ?_))
          | ((with_reducible refine at_load (dst := some 27) ?_); go_must (refine loadm_arm 27 46 (.tmp 26) _ _ _ _ _ r8 Tryd.underlying46 y44 rfl ?_)))
        refine hcall1.mono ?_
        rintro e w1 ⟨rfl, hb1⟩
        have hG := HF.out.below hb1
        have t0 : w1.there w.heap.size 0 (encS s1).size := there_all hG.1.2 hG.1.1 0 8 (by omega)
        have hG1 := hG.setS s1
        have t8 : (w1.setCells w.heap.size 0 (encS s1).toList).there w.heap.size 8 (z64.map encB).toArray.size := there_all hG1.1.2 hG1.1.1 8 64 (by omega)
        have hF2 := hG1.setTl _ hpl0
        have hlen := hF2.1.len
        clear hG hG1 hb1 hcall1 r0 r8 HF
        go_wp2_with (first
          | ((with_reducible refine at_store (ty := 48) ?_); go_must (refine storem_arm 48 (.tmp 29) (.tmp 28) _ _ (encS s1) t0 x43 o43 rfl rfl ?_))
          | ((with_reducible refine at_store (ty := 46) ?_); go_must (refine storem_arm 46 (.tmp 31) (.tmp 30) _ _ (z64.map encB).toArray t8 x44 o44 rfl (by exact z64_lit) ?_)))
        generalize z64 = b at *
        clear hlen
        go_loopw [6] (fun i wr => ∃ j : Nat, 56 ≤ j ∧ j ≤ 64 ∧ i = .int .i64 j ∧ BI w wr s1 b n j) (fun i _ => 64 - (intOf i).toNat)
        case atStart => exact ⟨56, by omega, by omega, rfl, by unfold BI; rw [P2_start]; exact hF2⟩
        case round =>
          clear hF2
          obtain ⟨j, hj0, hj, rfl, hF⟩ := hrel
          by_cases hlt : j < 64
          · have j0 : (0 : Int) ≤ (j : Int) := by omega
            have j1 : (j : Int) < 64 := by omega
            have j2 : (56 : Int) ≤ (j : Int) := by omega
            obtain ⟨v, hv⟩ := hF.1.some (8 + j) (by omega)
            have hf := hF.1.free (8 + j)
            have hS := hF.setT j hlt (lenB n (j - 56))
            have e56 : 56 + (j - 56) = j := by omega
            have hst := P2_step b n (j - 56) hpl0 (by omega)
            rw [e56, show j - 56 + 1 = j + 1 - 56 from by omega] at hst
            rw [hst] at hS
            rw [← len_form n j hj0 (by omega)] at hS
            have HS : Hid (BI w (wr.setCell ⟨w.heap.size, 8 + j, none⟩ (.int .u8 ((n : Int) * 8 / 2 ^ (8 * (63 - j)) % 256))) s1 b n (j + 1)) := hS
            clear hS hst e56 hF
            go_wp2
            go_roundw
            case rel => exact ⟨j + 1, by omega, by omega, by go_num, HS⟩
            case measure => simp [intOf]; omega
          · have hF8 : FI w wr s1 (b.take 56 ++ lens n 8) n := by
              have e : j = 64 := by omega
              unfold BI at hF
              rw [e, P2_end _ _ hpl0] at hF; exact hF
            have j5 : ¬ (j : Int) < 64 := by omega
            clear hF hj0 hj hlt
            generalize (j : Int) = j64 at *
            clear j
            have hl8 := hF8.1.2
            generalize b.take 56 ++ lens n 8 = B at *
            obtain ⟨hTw, hw0⟩ := hF8.tab HTab.out h0
            have hcall : Calls Tryd.prog 33 #[.agg (encS s1), .agg (B.map encB).toArray] wr fun e w' => e = .returned (.agg (encS (takeB s1 B))) ∧ Below wr.heap.size wr w' := HT.out s1 B hl8 wr hTw hw0
            have r0 : wr.rangeAt w.heap.size 0 (encS s1).toList := range_state hF8.1.1
            have r8 : wr.rangeAt w.heap.size 8 (B.map encB) := range_tail hF8.1.1
            have z43' : (Tryd.prog.info? 48).map (·.size) = some (encS s1).toList.length := z43
            have z44' : (Tryd.prog.info? 46).map (·.size) = some (B.map encB).length := by rw [List.length_map, hl8]; exact z44
            have z43F : (Tryd.prog.info? 48).map (·.size) = some (encS (takeB s1 B)).size := z43
            have hone : (encS (takeB s1 B)).all (·.oneCell') = true := by simp [encS, Value.oneCell']
            have HF : Hid (FI w wr s1 B n) := hF8
            clear hF8 hTw hw0 HTab HT
            generalize hFe : takeB s1 B = F at *
            have HFe : Hid (takeB s1 B = F) := hFe
            clear hFe
            go_wp2_with (first
              | ((with_reducible refine at_load (dst := some 50) ?_); go_must (refine loadm_arm 50 48 (.tmp 49) _ _ _ _ _ r0 Tryd.underlying48 z43' rfl ?_))
              | ((with_reducible refine at_load (dst := some 52) ?_); go_must (refine loadm_arm 52 46 (.tmp 51) _ _ _ _ _ r8 Tryd.underlying46 z44' rfl ?_)))
            refine hcall.mono ?_
            rintro e w1 ⟨rfl, hb1⟩
            have hG := HF.out.below hb1
            obtain ⟨z, hz1, hz2⟩ := hG.2.1
            have hB2 : Hid (Below w.heap.size w (w1.setRow (w.heap.size + 1) (encS F))) := hG.2.2.trans (below_setRow _ _ _ _ (by omega))
            have hR : (w1.setRow (w.heap.size + 1) (encS F)).heap[w.heap.size + 1]? = some (.cells (encS F) 48 (0, 0)) := heap_setRow_same _ _ _ _ _ hz1
            clear hG hb1 hcall
            go_wp2_with ((with_reducible refine at_store ?_); go_must (refine store_arm 48 (.tmp 2) (.tmp 53) _ (encS F) _ _ hz1 z43F hz2 hone rfl rfl ?_))
            refine bodyPost_ret (v := .agg (encS F)) ?_ rfl ⟨by rw [hfin.out], hB2⟩
            refine results_cell_row Tryd.results35 _ _ (w.heap.size + 1) 48 (encS F) (0, 0) _ ?_ hR Tryd.underlying48 rfl z43F
            rfl
      · have i6 : ¬ (56 : Int) ≤ (u : Int) := by omega
        have hlen := hF64.1.len
        have hfin : Hid (finT s (tl.take u) n = takeB s ((padT (tl.take u)).take 56 ++ lens n 8)) := by
          unfold finT; rw [if_neg (by rw [List.length_take]; omega)]; exact rfl
        generalize padT (tl.take u) = b at *
        go_wp2_with fail
        clear hlen
        go_loopw [6] (fun i wr => ∃ j : Nat, 56 ≤ j ∧ j ≤ 64 ∧ i = .int .i64 j ∧ BI w wr s b n j) (fun i _ => 64 - (intOf i).toNat)
        case atStart => exact ⟨56, by omega, by omega, rfl, by unfold BI; rw [P2_start]; exact hF64⟩
        case round =>
          clear hF64
          obtain ⟨j, hj0, hj, rfl, hF⟩ := hrel
          by_cases hlt : j < 64
          · have j0 : (0 : Int) ≤ (j : Int) := by omega
            have j1 : (j : Int) < 64 := by omega
            have j2 : (56 : Int) ≤ (j : Int) := by omega
            obtain ⟨v, hv⟩ := hF.1.some (8 + j) (by omega)
            have hf := hF.1.free (8 + j)
            have hS := hF.setT j hlt (lenB n (j - 56))
            have e56 : 56 + (j - 56) = j := by omega
            have hst := P2_step b n (j - 56) hpl (by omega)
            rw [e56, show j - 56 + 1 = j + 1 - 56 from by omega] at hst
            rw [hst] at hS
            rw [← len_form n j hj0 (by omega)] at hS
            have HS : Hid (BI w (wr.setCell ⟨w.heap.size, 8 + j, none⟩ (.int .u8 ((n : Int) * 8 / 2 ^ (8 * (63 - j)) % 256))) s b n (j + 1)) := hS
            clear hS hst e56 hF
            go_wp2
            go_roundw
            case rel => exact ⟨j + 1, by omega, by omega, by go_num, HS⟩
            case measure => simp [intOf]; omega
          · have hF8 : FI w wr s (b.take 56 ++ lens n 8) n := by
              have e : j = 64 := by omega
              unfold BI at hF
              rw [e, P2_end _ _ hpl] at hF; exact hF
            have j5 : ¬ (j : Int) < 64 := by omega
            clear hF hj0 hj hlt
            generalize (j : Int) = j64 at *
            clear j
            have hl8 := hF8.1.2
            generalize b.take 56 ++ lens n 8 = B at *
            obtain ⟨hTw, hw0⟩ := hF8.tab HTab.out h0
            have hcall : Calls Tryd.prog 33 #[.agg (encS s), .agg (B.map encB).toArray] wr fun e w' => e = .returned (.agg (encS (takeB s B))) ∧ Below wr.heap.size wr w' := HT.out s B hl8 wr hTw hw0
            have r0 : wr.rangeAt w.heap.size 0 (encS s).toList := range_state hF8.1.1
            have r8 : wr.rangeAt w.heap.size 8 (B.map encB) := range_tail hF8.1.1
            have z43' : (Tryd.prog.info? 48).map (·.size) = some (encS s).toList.length := z43
            have z44' : (Tryd.prog.info? 46).map (·.size) = some (B.map encB).length := by rw [List.length_map, hl8]; exact z44
            have z43F : (Tryd.prog.info? 48).map (·.size) = some (encS (takeB s B)).size := z43
            have hone : (encS (takeB s B)).all (·.oneCell') = true := by simp [encS, Value.oneCell']
            have HF : Hid (FI w wr s B n) := hF8
            clear hF8 hTw hw0 HTab HT
            generalize hFe : takeB s B = F at *
            have HFe : Hid (takeB s B = F) := hFe
            clear hFe
            go_wp2_with (first
              | ((with_reducible refine at_load (dst := some 50) ?_); go_must (refine loadm_arm 50 48 (.tmp 49) _ _ _ _ _ r0 Tryd.underlying48 z43' rfl ?_))
              | ((with_reducible refine at_load (dst := some 52) ?_); go_must (refine loadm_arm 52 46 (.tmp 51) _ _ _ _ _ r8 Tryd.underlying46 z44' rfl ?_)))
            refine hcall.mono ?_
            rintro e w1 ⟨rfl, hb1⟩
            have hG := HF.out.below hb1
            obtain ⟨z, hz1, hz2⟩ := hG.2.1
            have hB2 : Hid (Below w.heap.size w (w1.setRow (w.heap.size + 1) (encS F))) := hG.2.2.trans (below_setRow _ _ _ _ (by omega))
            have hR : (w1.setRow (w.heap.size + 1) (encS F)).heap[w.heap.size + 1]? = some (.cells (encS F) 48 (0, 0)) := heap_setRow_same _ _ _ _ _ hz1
            clear hG hb1 hcall
            go_wp2_with ((with_reducible refine at_store ?_); go_must (refine store_arm 48 (.tmp 2) (.tmp 53) _ (encS F) _ _ hz1 z43F hz2 hone rfl rfl ?_))
            refine bodyPost_ret (v := .agg (encS F)) ?_ rfl ⟨by rw [hfin.out], hB2⟩
            refine results_cell_row Tryd.results35 _ _ (w.heap.size + 1) 48 (encS F) (0, 0) _ ?_ hR Tryd.underlying48 rfl z43F
            rfl
end Go.Proofs.YtaefnkaenhmekaaDoor
