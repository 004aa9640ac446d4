/- The contract of lex.shown. -/
import Derived.Test.YtfcnbiikjopajaaDoorFmtW
import Derived.Test.YtfcnbiikjopajaaDoorTypedW
import Derived.Test.YtfcnbiikjopajaaDoorDigL
namespace Go.Proofs.YtfcnbiikjopajaaDoor
open Go.RowKit
/-- what the program shows a token as -/
def shownP (k : Int) (s : Bs) (n ty : Int) : Bs :=
  if k ≠ 2 then s
  else if ty = 0 then (if n < 0 then [49, 54, 35] ++ upL (hexI (decide (n + 4294967296 < 0)) (n + 4294967296).natAbs) else signedL n)
  else if ty = 4 then ([84, 35] ++ signedL n) ++ [109, 115]
  else if ty = 1 ∨ ty = 2 ∨ ty = 3 then (tyName ty ++ [35]) ++ signedL n
  else []
theorem ty_name (j : Nat) (h : j < 5) (h4 : (tyNos[j]'h) ≠ 4) : (tyNames[j]'h) = tyName (tyNos[j]'h) ∧ ((tyNos[j]'h) = 1 ∨ (tyNos[j]'h) = 2 ∨ (tyNos[j]'h) = 3) := by
  have : j = 0 ∨ j = 1 ∨ j = 2 ∨ j = 3 ∨ j = 4 := by omega
  rcases this with rfl | rfl | rfl | rfl | rfl
  · exact ⟨rfl, .inl rfl⟩
  · exact ⟨rfl, .inr (.inl rfl)⟩
  · exact ⟨rfl, .inr (.inr rfl)⟩
  · exact absurd rfl h4
  · exact absurd rfl h4
theorem ty_miss {ty : Int} (h : ty ∉ tyNos) : ¬ (ty = 1 ∨ ty = 2 ∨ ty = 3) := fun e => h (by rcases e with rfl | rfl | rfl <;> decide)
theorem hexI_len (b : Bool) (n : Nat) : (hexI b n).length ≤ 18 := by
  have := repF_len chL 16 17 n
  unfold hexI
  split
  · simp; omega
  · omega
theorem signedL_len (n : Int) : (signedL n).length ≤ 21 := by
  have := repF_len chL 10 20 n.natAbs
  unfold signedL dec
  split
  · simp; omega
  · omega
theorem text_add (a b : Bs) (h : a.length + b.length ≤ 1000000) : Op.stringOp .add ⟨a.toArray⟩ ⟨b.toArray⟩ = pure (.string ⟨(a ++ b).toArray⟩) := by
  rw [str_add _ _ (by rw [list_size, list_size]; exact h), app_text]
/-- what the tables of Go's library say that this layer reads -/
def Lay3 (w : World) : Prop := (∀ W, Below w.heap.size w W → Lib.TabIs Tryd.prog W "internal/strconv.uint64pow10" .u64 Lib.pow10Tab) ∧ w.cell? ⟨8, 15, none⟩ = some (.int .u8 4) ∧ 8 < w.heap.size
theorem Lay3.below {w w' : World} (h : Lay3 w) (hb : Below w.heap.size w w') : Lay3 w' :=
  ⟨fun W hW => h.1 W (hb.trans (hW.mono hb.size)), (hb.cell (p := ⟨8, 15, none⟩) h.2.2).trans h.2.1, by have := hb.size; have := h.2.2; omega⟩
theorem Lay3.tab {w : World} (h : Lay3 w) : Lib.TabIs Tryd.prog w "internal/strconv.uint64pow10" .u64 Lib.pow10Tab := h.1 w (Below.refl _ _)
set_option maxRecDepth 100000 in
set_option maxHeartbeats 3200000 in
theorem shown_any (k : Int) (s : Bs) (n ty at_ : Int) (h0 : -9223372036854775808 ≤ n) (h1 : n ≤ 9223372036854775807) (w : World) (hg : Glo w) (h3 : Lay3 w) : Calls Tryd.prog 30 #[.agg #[.int .i64 k, .string ⟨s.toArray⟩, .int .i64 n, .int .i64 ty, .int .i64 at_]] w fun e w' => e = .returned (.string ⟨(shownP k s n ty).toArray⟩) ∧ Below w.heap.size w w' := by
  have b0 := (Below.refl w.heap.size w).alloc (Nat.le_refl _) (.cells #[.int .i64 k, .string ⟨s.toArray⟩, .int .i64 n, .int .i64 ty, .int .i64 at_] 41)
  have L1 := h3.below b0
  by_cases hk : k = 2
  · subst hk
    have HK : Hid (shownP 2 s n ty = if ty = 0 then (if n < 0 then [49, 54, 35] ++ upL (hexI (decide (n + 4294967296 < 0)) (n + 4294967296).natAbs) else signedL n)
        else if ty = 4 then ([84, 35] ++ signedL n) ++ [109, 115] else if ty = 1 ∨ ty = 2 ∨ ty = 3 then (tyName ty ++ [35]) ++ signedL n else []) := by
      show _ = _
      unfold shownP
      rw [if_neg (by simp)]
    by_cases h00 : ty = 0
    · subst h00
      by_cases hn : n < 0
      · have c := formatInt16 (n + 4294967296) (by omega) (by omega) _ L1.2.1 L1.2.2
        have hl := hexI_len (decide (n + 4294967296 < 0)) (n + 4294967296).natAbs
        have cu := fun W => upper_any (hexI (decide (n + 4294967296 < 0)) (n + 4294967296).natAbs) (by omega) W
        have ha := text_add [49, 54, 35] (upL (hexI (decide (n + 4294967296 < 0)) (n + 4294967296).natAbs)) (by rw [up_length]; simp; omega)
        have HR : Hid (shownP 2 s n 0 = [49, 54, 35] ++ upL (hexI (decide (n + 4294967296 < 0)) (n + 4294967296).natAbs)) := by show _ = _; rw [HK.out, if_pos rfl, if_pos hn]
        rw [← HR.out] at ha
        generalize (⟨(shownP 2 s n 0).toArray⟩ : ByteArray) = out at *
        generalize (⟨(upL (hexI (decide (n + 4294967296 < 0)) (n + 4294967296).natAbs)).toArray⟩ : ByteArray) = u2 at *
        generalize (⟨(hexI (decide (n + 4294967296 < 0)) (n + 4294967296).natAbs).toArray⟩ : ByteArray) = u1 at *
        generalize (⟨s.toArray⟩ : ByteArray) = S at *
        have HB0 := hide b0
        clear HK HR hl h3 L1 hg b0
        go_enter Tryd.func30, Tryd.ntmps30
        go_wp2_with fail
        refine c.mono ?_
        rintro e w1 ⟨rfl, hb⟩
        have HB1 := hide (HB0.out.trans (hb.mono HB0.out.size))
        clear hb c
        go_wp2_with fail
        refine (cu _).mono ?_
        rintro e w2 ⟨rfl, hb⟩
        have HB2 := hide (HB1.out.trans (hb.mono HB1.out.size))
        clear hb cu
        go_wp2
        go_ret
        exact ⟨rfl, HB2.out⟩
      · have c := formatInt10 n h0 h1 _ L1.tab
        have HR : Hid (shownP 2 s n 0 = signedL n) := by show _ = _; rw [HK.out, if_pos rfl, if_neg hn]
        rw [← HR.out] at c
        generalize (⟨(shownP 2 s n 0).toArray⟩ : ByteArray) = out at *
        generalize (⟨s.toArray⟩ : ByteArray) = S at *
        have HB0 := hide b0
        clear HK HR h3 L1 hg b0
        go_enter Tryd.func30, Tryd.ntmps30
        go_wp2_with fail
        refine c.mono ?_
        rintro e w1 ⟨rfl, hb⟩
        have HB1 := hide (HB0.out.trans (hb.mono HB0.out.size))
        clear hb c
        go_wp2
        go_ret
        exact ⟨rfl, HB1.out⟩
    · have t0 : (ty == 0) = false := by rw [beq_eq_false_iff_ne]; exact h00
      rw [if_neg h00] at HK
      by_cases h4 : ty = 4
      · subst h4
        have c := formatInt10 n h0 h1 _ L1.tab
        have hl := signedL_len n
        have ha := text_add [84, 35] (signedL n) (by simp; omega)
        have hb2 := text_add ([84, 35] ++ signedL n) [109, 115] (by simp; omega)
        have HR : Hid (shownP 2 s n 4 = ([84, 35] ++ signedL n) ++ [109, 115]) := by show _ = _; rw [HK.out, if_pos rfl]
        rw [← HR.out] at hb2
        generalize (⟨(shownP 2 s n 4).toArray⟩ : ByteArray) = out at *
        generalize (⟨([84, 35] ++ signedL n).toArray⟩ : ByteArray) = u2 at *
        generalize (⟨(signedL n).toArray⟩ : ByteArray) = u1 at *
        generalize (⟨s.toArray⟩ : ByteArray) = S at *
        have HB0 := hide b0
        clear HK HR hl h3 L1 hg b0 h00
        go_enter Tryd.func30, Tryd.ntmps30
        go_wp2_with fail
        refine c.mono ?_
        rintro e w1 ⟨rfl, hb⟩
        have HB1 := hide (HB0.out.trans (hb.mono HB0.out.size))
        clear hb c
        go_wp2
        go_ret
        exact ⟨rfl, HB1.out⟩
      · have t4 : (ty == 4) = false := by rw [beq_eq_false_iff_ne]; exact h4
        rw [if_neg h4] at HK
        have ht : ∀ o, TabAt (w.alloc o) 0 tyTab := hg.ty.alloc (by have := hg.lt; omega)
        have ix : Hid (∀ (k : Nat) (h : k < 5) W, (Instr.index 82 (.agg tyTab.toArray) (.int .i64 (k : Int))).run Tryd.prog W = .ok (.agg #[.string ⟨(tyNames[k]'h).toArray⟩, .int .i64 (tyNos[k]'h)]) W) := fun k h W => index_row Tryd.underlying82 (fun _ => Tryd.isAgg81 _) (fun _ => Tryd.sizeOf81 _) _ k h _ (ty_tab k h) W
        obtain ⟨T, hT⟩ : ∃ T, Value.agg tyTab.toArray = T := ⟨_, rfl⟩
        rw [hT] at ix
        have HL := hide L1
        have HB0 := hide b0
        have hs2 : (w.alloc (.cells #[.int .i64 2, .string ⟨s.toArray⟩, .int .i64 n, .int .i64 ty, .int .i64 at_] 41)).cell? ⟨w.heap.size, 2, none⟩ = some (.int .i64 n) := by simp
        have hs3 : (w.alloc (.cells #[.int .i64 2, .string ⟨s.toArray⟩, .int .i64 n, .int .i64 ty, .int .i64 at_] 41)).cell? ⟨w.heap.size, 3, none⟩ = some (.int .i64 ty) := by simp
        have hz : w.heap.size < (w.alloc (.cells #[.int .i64 2, .string ⟨s.toArray⟩, .int .i64 n, .int .i64 ty, .int .i64 at_] 41)).heap.size := by rw [World.size_alloc]; omega
        have HNN := hide (And.intro h0 h1)
        clear h3 L1 hg b0 h00 h0 h1
        obtain ⟨S, hS⟩ : ∃ S, S = (⟨s.toArray⟩ : ByteArray) := ⟨_, rfl⟩
        rw [← hS] at hs2 hs3 hz HB0 HL ⊢
        clear hS
        go_enter Tryd.func30, Tryd.ntmps30
        go_wp2_with ((with_reducible refine at_load (ty := 82) ?_); go_must (refine load_tab (b := 0) (t := tyTab) (T := T) rfl (ht _) hT Tryd.underlying82 rfl size82 ?_))
        clear ht hT
        generalize w.alloc (.cells #[.int .i64 2, .string S, .int .i64 n, .int .i64 ty, .int .i64 at_] 41) = W1 at *
        go_loopw [43] (fun i wr => ∃ j : Nat, j ≤ 5 ∧ i = .int .i64 (j : Int) ∧ Hid (ty ∉ tyNos.take j ∧ Below W1.heap.size W1 wr)) (fun i _ => 5 - (intOf i).toNat)
        case atStart => exact ⟨0, by omega, rfl, by simp, Below.refl _ _⟩
        case round =>
          obtain ⟨j, hj, rfl, hh⟩ := hrel
          have HBr := hide hh.out.2
          have zr : W1.heap.size ≤ wr.heap.size := hh.out.2.size
          by_cases hlt : j < 5
          · have x0 := ix.out j hlt
            have i1 : (j : Int) < 5 := by omega
            have HTk := hide (show tyNos.take (j + 1) = tyNos.take j ++ [tyNos[j]'hlt] from (List.take_append_getElem (show j < tyNos.length from hlt)).symm)
            have HTn := hide (ty_name j hlt)
            generalize (tyNames[j]'hlt) = U at *
            generalize hno : (tyNos[j]'hlt) = no at *
            have B2 := HBr.out.alloc zr (.cells #[.string ⟨U.toArray⟩, .int .i64 no] 81)
            have y2 := (B2.cell (p := ⟨w.heap.size, 2, none⟩) hz).trans hs2
            have y3 := (B2.cell (p := ⟨w.heap.size, 3, none⟩) hz).trans hs3
            clear ix hno
            by_cases he : no = ty
            · subst he
              have hnm := HTn.out h4
              have HR : Hid (shownP 2 s n no = (U ++ [35]) ++ signedL n) := by show _ = _; rw [HK.out, if_pos hnm.2, hnm.1]
              have hUl : U.length ≤ 4 := by rw [hnm.1]; unfold tyName; split <;> (try split) <;> simp
              have hsl := signedL_len n
              have ha := text_add U [35] (by simp; omega)
              have hb2 := text_add (U ++ [35]) (signedL n) (by simp; omega)
              rw [← HR.out] at hb2
              have y0 : (wr.alloc (.cells #[.string ⟨U.toArray⟩, .int .i64 no] 81)).cell? ⟨wr.heap.size, 0, none⟩ = some (.string ⟨U.toArray⟩) := by simp
              have CT : Hid (∀ W, (W.cell? ⟨wr.heap.size, 0, none⟩ = some (.string ⟨U.toArray⟩) ∧ W.cell? ⟨w.heap.size, 2, none⟩ = some (.int .i64 n)) ∧ Below W1.heap.size W1 W → Calls Tryd.prog 51 #[.int .i64 n, .int .i64 10] W fun e w' => e = .returned (.string ⟨(signedL n).toArray⟩) ∧ ((w'.cell? ⟨wr.heap.size, 0, none⟩ = some (.string ⟨U.toArray⟩) ∧ w'.cell? ⟨w.heap.size, 2, none⟩ = some (.int .i64 n)) ∧ Below W1.heap.size W1 w')) := fun W h =>
                (formatInt10 n HNN.out.1 HNN.out.2 W (HL.out.below h.2).tab).mono fun e w' ⟨q1, q2⟩ => ⟨q1, ⟨(q2.cell (p := ⟨wr.heap.size, 0, none⟩) (World.block_lt_of_cell? W _ h.1.1)).trans h.1.1, (q2.cell (p := ⟨w.heap.size, 2, none⟩) (World.block_lt_of_cell? W _ h.1.2)).trans h.1.2⟩, h.2.trans (q2.mono h.2.size)⟩
              have S0 := And.intro (And.intro y0 y2) B2
              clear HTk HTn HK hnm hUl hsl hh B2 y2
              obtain ⟨out, hout⟩ : ∃ o, o = (⟨(shownP 2 s n no).toArray⟩ : ByteArray) := ⟨_, rfl⟩
              rw [← hout] at hb2
              have HOUT : Hid (∀ e : Ending, e = .returned (.string out) → e = .returned (.string ⟨(shownP 2 s n no).toArray⟩)) := fun e he => by rw [← hout]; exact he
              clear hout
              generalize (⟨(U ++ [35]).toArray⟩ : ByteArray) = u2 at *
              generalize (⟨(signedL n).toArray⟩ : ByteArray) = u1 at *
              generalize (⟨U.toArray⟩ : ByteArray) = u at *
              go_upto_region 13 with fail
              generalize wr.alloc (.cells #[.string u, .int .i64 no] 81) = W2 at *
              clear y0 y3
              go_region_held3 (fun W => (W.cell? ⟨wr.heap.size, 0, none⟩ = some (.string u) ∧ W.cell? ⟨w.heap.size, 2, none⟩ = some (.int .i64 n)) ∧ Below W1.heap.size W1 W) (first | assumption | exact ⟨S0.1, S0.2.drew⟩) (first | (go_at_call 51; refine (CT.out _ ?_).mono ?_; assumption; rintro e w6 ⟨rfl, hb6⟩))
              all_goals
                go_wp2
                go_ret
                refine ⟨HOUT.out _ ?_, HB0.out.trans ((And.right (by assumption) : Below W1.heap.size W1 _).mono HB0.out.size)⟩
                rfl
            · have e2 : (no == ty) = false := by rw [beq_eq_false_iff_ne]; exact he
              have HN2 := hide (show ty ∉ tyNos.take (j + 1) by
                rw [HTk.out]
                intro h
                rcases List.mem_append.1 h with h | h
                · exact hh.out.1 h
                · exact he (List.mem_singleton.1 h).symm)
              clear HTk HTn HK hh he y2
              generalize (⟨U.toArray⟩ : ByteArray) = u at *
              have HB2 := hide B2
              clear B2
              go_wp2
              go_roundw
              case rel => exact ⟨j + 1, by omega, by go_num, HN2.out, HB2.out⟩
              case measure => simp only [intOf]; omega
          · obtain rfl : j = 5 := by omega
            have HR : Hid (shownP 2 s n ty = []) := by
              show _ = _
              have hm := ty_miss (ty := ty) (fun h => hh.out.1 (by rw [List.take_of_length_le (by decide)]; exact h))
              rw [HK.out, if_neg hm]
            clear hh HK ix
            go_wp2
            go_ret
            exact ⟨by rw [HR.out]; rfl, HB0.out.trans (HBr.out.mono HB0.out.size)⟩
  · have e1 : (k != 2) = true := by rw [bne_iff_ne]; exact hk
    have HR : Hid (shownP k s n ty = s) := by show _ = _; unfold shownP; rw [if_pos hk]
    rw [HR.out]
    generalize (⟨s.toArray⟩ : ByteArray) = S at *
    have HB0 := hide b0
    clear h3 L1 hg b0 HR
    go_enter Tryd.func30, Tryd.ntmps30
    go_wp2
    go_ret
    exact ⟨rfl, HB0.out⟩
end Go.Proofs.YtfcnbiikjopajaaDoor
