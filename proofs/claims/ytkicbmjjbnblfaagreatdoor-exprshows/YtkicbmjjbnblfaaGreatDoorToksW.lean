/- The contract of lex.Tokens. -/
import Derived.Test.YtkicbmjjbnblfaaGreatDoorGpA
namespace Go.Proofs.YtkicbmjjbnblfaaGreatDoor
open Go.RowKit
/-- what holds at the label: k bytes are read, ts has come of them -/
def TJ (l : Bs) (s : ByteArray) (w : World) (a' : Act) (W : World) : Prop := ∃ (k f : Nat) (ts : List (Tk × Nat)) (lv u1 u6 u7 u8 u9 u10 u11 u12 u13 u14 u15 u16 u17 u18 u19 u20 u21 u22 u23 u24 u25 u26 u27 u28 u29 u30 u31 u32 u33 u34 u35 u36 u37 u38 u39 u40 u41 u42 u43 u44 u45 u46 u47 u48 u49 u50 u51 u52 u53 u54 u55 u56 u57 u58 u59 u60 u61 : Value), a' = { tmps := #[.string s, u1, .slice none 0 0, .pointer (some ⟨w.heap.size, 0, none⟩), lv, .int .i64 (k : Int), u6, u7, u8, u9, u10, u11, u12, u13, u14, u15, u16, u17, u18, u19, u20, u21, u22, u23, u24, u25, u26, u27, u28, u29, u30, u31, u32, u33, u34, u35, u36, u37, u38, u39, u40, u41, u42, u43, u44, u45, u46, u47, u48, u49, u50, u51, u52, u53, u54, u55, u56, u57, u58, u59, u60, u61], defers := [] } ∧
  Hid (k ≤ l.length ∧ l.length - k ≤ f ∧ contT ts (toksF (f + 1) ts.length (l.drop k)) = toks l ∧ ts.length ≤ 4096 ∧ W.ownsRow (w.heap.size + 1) 54 5 lv ts.length (tksC l.length ts) ∧ Below (w.heap.size + 1) (w.alloc F2) W)
def atOf (a : Act) : Nat := (intOf (a.tmps.getD 5 undef)).toNat
set_option maxRecDepth 100000 in
set_option maxHeartbeats 6400000 in
theorem tokens_any (l : Bs) (w : World) (hg : Glo w) : Calls Tryz.prog 51 #[.string ⟨l.toArray⟩] w fun e w' => TksOut w.heap.size l e w' ∧ Below w.heap.size w w' := by
  have hsz := hide (list_size l)
  have HG := hide hg
  by_cases hlong : 65536 < l.length
  · have HT := hide (show toks l = .error (l.length, 2) by unfold toks; rw [if_pos hlong])
    have i1 : (65536 : Int) < ((⟨l.toArray⟩ : ByteArray).size : Int) := by have := hsz.out; omega
    generalize (⟨l.toArray⟩ : ByteArray) = s at *
    clear hlong hg
    go_enter Tryz.func51, Tryz.ntmps51
    go_wp2
    go_step3
    go_wp2
    first | rw [Exit.noGoto_ret] | skip
    refine bodyPost_ret (v := .tuple #[.slice none 0 0, .agg #[.int .i64 0, .int .i64 2]]) ?_ rfl ⟨?_, ?_⟩
    · simp [results, Tryz.results51, go_sem]
    · unfold TksOut
      rw [HT.out]
      simp
    · exact (Below.refl _ _).alloc (Nat.le_refl _) _
  · have HT := hide (show toks l = toksF (l.length + 1) 0 l by unfold toks; rw [if_neg hlong])
    have i1 : ¬ (65536 : Int) < ((⟨l.toArray⟩ : ByteArray).size : Int) := by have := hsz.out; omega
    have HL := hide (show l.length ≤ 65536 by omega)
    have HX : Hid (∀ (n : Nat), n ≤ l.length → ∀ W : World, (Instr.slice 9 (.string ⟨l.toArray⟩) (some (.int .i64 (n : Int))) none none).run Tryz.prog W = .ok (.string ⟨(l.drop n).toArray⟩) W) := fun n h W => slice_from ⟨l.toArray⟩ n (by rw [list_size]; exact h) W
    have CGp := hide fun (k : Nat) (W : World) (h : Glo W) => gap_any (l.drop k) (by have := HL.out; rw [List.length_drop]; omega) W h
    have CTk := hide fun (k : Nat) (W : World) (h : Glo W) => token_any (l.drop k) (by have := HL.out; rw [List.length_drop]; omega) W h
    generalize (⟨l.toArray⟩ : ByteArray) = s at *
    clear hlong hg
    go_enter Tryz.func51, Tryz.ntmps51
    go_wp2
    refine wp_scope_loop 0 (TJ l s w) (fun a' _ => l.length - atOf a') rfl ?_ ?_
    · intro key
      go_wp2
      go_step3
      rename_i hK
      apply hK
      refine key _ _ ⟨0, l.length, [], _, _, _, _, _, _, _, _, _, _, _, _, _, _, _, _, _, _, _, _, _, _, _, _, _, _, _, _, _, _, _, _, _, _, _, _, _, _, _, _, _, _, _, _, _, _, _, _, _, _, _, _, _, _, _, _, _, _, rfl, ?_⟩
      exact ⟨by omega, by omega, by rw [HT.out, cont_nil]; rfl, by simp, World.ownsRow_nil _ _ _ _, Below.refl _ _⟩
    · rintro a' W ⟨k, f, ts, lv, u1, u6, u7, u8, u9, u10, u11, u12, u13, u14, u15, u16, u17, u18, u19, u20, u21, u22, u23, u24, u25, u26, u27, u28, u29, u30, u31, u32, u33, u34, u35, u36, u37, u38, u39, u40, u41, u42, u43, u44, u45, u46, u47, u48, u49, u50, u51, u52, u53, u54, u55, u56, u57, u58, u59, u60, u61, rfl, hh⟩
      have hk := hh.out.1
      have GW := HG.out.below (((Below.refl w.heap.size w).alloc (Nat.le_refl _) F2).trans (hh.out.2.2.2.2.2.mono (Nat.le_succ _))) HG.out.lt
      have x0 := HX.out k hk
      have cg := CGp.out k W GW
      have hql : (l.drop k).length = l.length - k := List.length_drop
      obtain ⟨⟨k0, k1⟩, f0, f1⟩ := rezF hh.out.2.2.2.2.2
      have HBW := hide (((Below.refl w.heap.size w).alloc (Nat.le_refl _) F2).trans (hh.out.2.2.2.2.2.mono (Nat.le_succ _)))
      have j1 : (k : Int) ≤ 65536 := by have := HL.out; omega
      have hcont := hide hh.out.2.2.1
      unfold gapOut at cg
      cases hgp : gapP (l.drop k) with
      | none =>
        rw [hgp] at cg
        have HR := hide (show toks l = .error ((l.drop k).length, 50) by rw [← hcont.out, toksF_bad hgp]; rfl)
        have HK : Hid (((l.length - (l.drop k).length : Nat) : Int) = (k : Int)) := by show _ = _; omega
        generalize (⟨(l.drop k).toArray⟩ : ByteArray) = q at *
        clear hgp hcont hql HX CGp CTk GW HG hk hh
        go_wp2_with fail
        refine cg.mono ?_
        rintro e w1 ⟨rfl, hw1⟩
        subst hw1
        go_wp2
        simp only [Exit.jump]
        first | rw [Exit.noGoto_ret] | skip
        refine bodyPost_ret (v := .tuple #[.slice none 0 0, .agg #[.int .i64 (k : Int), .int .i64 50]]) ?_ rfl ⟨?_, ?_⟩
        · simp [results, Tryz.results51, go_sem, k0, k1]
        · unfold TksOut
          rw [HR.out]
          simp only [HK.out]
        · exact (HBW.out.setCell (Nat.le_refl _) _).setCell (Nat.le_refl _) _
      | some r =>
        rw [hgp] at cg
        have hsuf := gap_suf hgp
        have hrl := hsuf.length_le
        by_cases hne : r.length = (l.drop k).length
        · have hs := skip_here hgp hne
          have hz : (((l.drop k).length - r.length : Nat) : Int) = 0 := by omega
          simp only [hz] at cg
          obtain ⟨a0, cap0, hlv⟩ := own_form hh.out.2.2.2.2.1
          subst hlv
          have HF := hide hh.out.2.2.2.1
          by_cases hfull : 4096 ≤ ts.length
          · have i2 : (ts.length : Int) = 4096 := by have := HF.out; omega
            have HR := hide (show toks l = .error ((l.drop k).length, 2) by rw [← hcont.out, toksF_long hs hfull]; rfl)
            have HK : Hid (((l.length - (l.drop k).length : Nat) : Int) = (k : Int)) := by show _ = _; omega
            generalize (⟨(l.drop k).toArray⟩ : ByteArray) = q at *
            clear hgp hcont hql HX CGp CTk GW HG hk hh hs hne hsuf hrl hz HF hfull
            go_wp2_with fail
            refine cg.mono ?_
            rintro e w1 ⟨rfl, hw1⟩
            subst hw1
            go_wp2
            simp only [Exit.jump]
            first | rw [Exit.noGoto_ret] | skip
            refine bodyPost_ret (v := .tuple #[.slice none 0 0, .agg #[.int .i64 (k : Int), .int .i64 2]]) ?_ rfl ⟨?_, ?_⟩
            · simp [results, Tryz.results51, go_sem, k0, k1]
            · unfold TksOut
              rw [HR.out]
              simp only [HK.out]
            · exact (HBW.out.setCell (Nat.le_refl _) _).setCell (Nat.le_refl _) _
          · have i2 : ¬ (ts.length : Int) = 4096 := by omega
            have ct := CTk.out k W GW
            have HO := hide hh.out.2.2.2.2.1
            have HW := hide hh.out.2.2.2.2.2
            have HF2 := hide (show ts.length < 4096 by omega)
            have HF3 := hide hh.out.2.1
            have HSk := hide hs
            have HNf := hide hfull
            obtain ⟨i0, hi, hz0, hz1, hz2⟩ := info_parts in41L
            generalize (⟨(l.drop k).toArray⟩ : ByteArray) = q at *
            clear hgp HX CGp CTk GW HG hh hs hne hsuf hrl hz HF hfull
            go_wp2_with fail
            refine cg.mono ?_
            rintro e w1 ⟨rfl, hw1⟩
            subst hw1
            clear k0 k1 f0 f1 cg
            go_wp2_with fail
            refine ct.mono ?_
            rintro e w1 ⟨⟨v, rfl, hv⟩, hb1⟩
            clear ct
            have zW := HW.out.size
            rw [World.size_alloc] at zW
            have B1 := HW.out.trans (hb1.mono zW)
            have o1 := owns_below HO.out hb1
            have zl := hb1.size
            have hlt := HO.out.lt
            cases hto : tokO (l.drop k) with
            | none =>
              rw [hto] at hv
              obtain ⟨t, n, rfl⟩ := hv
              have hne0 : l.drop k ≠ [] := fun e => by rw [e] at hto; cases hto
              have HR := hide (show toks l = .error ((l.drop k).length, 50) by
                rw [← hcont.out, toksF_none HSk.out HNf.out hne0 (by unfold tokO at hto; rw [if_neg hne0] at hto; exact hto)]; rfl)
              have HK : Hid (((l.length - (l.drop k).length : Nat) : Int) = (k : Int)) := by show _ = _; omega
              have R := fun o => rezF (B1.alloc (by omega) o)
              have k0 := fun o => (R o).1.1
              have k1 := fun o => (R o).1.2
              have f0 := fun o => (R o).2.1
              have f1 := fun o => (R o).2.2
              have HB1 := hide (((Below.refl w.heap.size w).alloc (Nat.le_refl _) F2).trans (B1.mono (Nat.le_succ _)))
              have z1 : w.heap.size ≤ w1.heap.size := by omega
              clear hto hb1 B1 o1 HO HW HF2 HF3 HSk HNf hcont R hlt hi hz0 hz1 hz2 hne0
              unfold tkA
              go_wp2
              simp only [Exit.jump]
              first | rw [Exit.noGoto_ret] | skip
              refine bodyPost_ret (v := .tuple #[.slice none 0 0, .agg #[.int .i64 (k : Int), .int .i64 50]]) ?_ rfl ⟨?_, ?_⟩
              · simp [results, Tryz.results51, go_sem, k0, k1]
              · unfold TksOut
                rw [HR.out]
                simp only [HK.out]
              · exact ((HB1.out.alloc z1 _).setCell (Nat.le_refl _) _).setCell (Nat.le_refl _) _
            | some x =>
              obtain ⟨t, r'⟩ := x
              rw [hto] at hv
              obtain rfl : v = _ := hv
              have j5 : (((l.drop k).length - r'.length : Nat) : Int) ≤ 65536 := by have := HL.out; omega
              have j6 : (0 : Int) ≤ (((l.drop k).length - r'.length : Nat) : Int) := by omega
              have n48 : (ts.length : Int) ≤ 4096 := by have := HF2.out; omega
              obtain ⟨z, HZ⟩ : ∃ z, Hid ((l.drop k).length - r'.length = z) := ⟨_, rfl⟩
              rw [HZ.out] at j5 j6
              rw [HZ.out]
              have HTC : Hid (tksC l.length ts ++ [.int .i64 t.kind, .string ⟨t.s.toArray⟩, .int .i64 t.n, .int .i64 t.ty, .int .i64 (k : Int)] = tksC l.length (ts ++ [(t, (l.drop k).length)])) := by
                show _ = _
                rw [tksC_snoc]
                unfold tkC
                simp only []
                rw [show ((l.length - (l.drop k).length : Nat) : Int) = (k : Int) by omega]
              have HTO := hide hto
              clear hto
              unfold tkA
              generalize (⟨t.s.toArray⟩ : ByteArray) = tS at *
              have hfar : some w1.heap.size ≠ (Value.slice a0 ts.length cap0).ownBlock := fun e => by have := hlt _ e.symm; omega
              go_wp2_with (at_builtin; go_must (refine wpList_append_lies _ (by rfl) _ _ _ (by rfl) (w.heap.size + 1) 54 i0 _ 5 48 Tryz.underlying24 hi hz0 hz1 hz2 rfl (by omega) _ ts.length _ (by rfl) ((o1.alloc _).alloc _) ⟨w1.heap.size + 1, 0, none⟩ 1 1 [.int .i64 t.kind, .string tS, .int .i64 t.n, .int .i64 t.ty, .int .i64 (k : Int)] (by rfl) (by rfl) (by rw [show w1.heap.size + 1 = (w1.alloc (.cells #[.int .i64 t.kind, .string tS, .int .i64 t.n, .int .i64 t.ty, .int .i64 (k : Int)] 54)).heap.size by simp]; exact World.news_of_block (cs := #[.int .i64 t.kind, .string tS, .int .i64 t.n, .int .i64 t.ty, .int .i64 (k : Int)]) (t := 54) (fr := (0, 0)) (heap_alloc_new _ _)) (by simp [Value.oneCell']) (by omega) (by unfold maxLen; omega) (by omega) (by simp; omega) (w1.heap.size + 2) (by simp) ?_; intro gg cap' w3 hown3 hgrow hat3 hlt3; have kd := (hgrow.cell_far ⟨w1.heap.size, 0, none⟩ (by simp; omega) hfar).trans (show _ = some (Value.int .i64 t.kind) by simp); have B3 := ((B1.alloc (by omega) _).alloc (by simp; omega) _).grown hgrow (by simp; omega) (fun r hr => (hlt r hr).1); obtain ⟨⟨k0, k1⟩, f0, f1⟩ := rezF B3; rw [HTC.out] at hown3; replace hown3 := hide hown3; replace B3 := hide B3; clear hgrow hat3 hlt3 hfar o1 B1))
              · have hkind : ¬ t.kind = 4 := by
                  have h : (t.kind != 4) = true := by assumption
                  simpa using h
                have hne0 : l.drop k ≠ [] := fun e => by
                  have h := HTO.out
                  rw [e] at h
                  injection h with h
                  injection h with h1 h2
                  exact hkind (by rw [← h1]; rfl)
                have ho : oneTok (l.drop k) = some (t, r') := by
                  have h := HTO.out
                  unfold tokO at h
                  rw [if_neg hne0] at h
                  exact h
                obtain ⟨hsuf2, hlen2⟩ := one_suf ho
                have hr2 := suf_drop hsuf2
                rw [HZ.out, List.drop_drop] at hr2
                have hz1' := HZ.out
                have hf3 := HF3.out
                obtain ⟨f', rfl⟩ : ∃ f', f = f' + 1 := ⟨f - 1, by omega⟩
                have hC : contT (ts ++ [(t, (l.drop k).length)]) (toksF (f' + 1) (ts ++ [(t, (l.drop k).length)]).length (l.drop (k + z))) = toks l := by
                  rw [← hcont.out, toksF_some HSk.out HNf.out ho, cont_cons, List.length_append, ← hr2]
                  rfl
                go_step3
                refine ⟨rfl, ⟨k + z, f', ts ++ [(t, (l.drop k).length)], _, _, _, _, _, _, _, _, _, _, _, _, _, _, _, _, _, _, _, _, _, _, _, _, _, _, _, _, _, _, _, _, _, _, _, _, _, _, _, _, _, _, _, _, _, _, _, _, _, _, _, _, _, _, _, _, _, _, rfl, by omega, by omega, hC, by rw [List.length_append]; have := HF2.out; simp; omega, by rw [List.length_append]; exact hown3.out, B3.out⟩, ?_⟩
                simp [atOf, intOf]
                omega
              · have hkind : t.kind = 4 := by
                  have h : (t.kind != 4) = false := by assumption
                  simpa using h
                have hq0 : l.drop k = [] := by
                  by_cases e : l.drop k = []
                  · exact e
                  · have h := HTO.out
                    unfold tokO at h
                    rw [if_neg e] at h
                    exact absurd hkind (one_kind h)
                have ht : t = endT := by
                  have h := HTO.out
                  rw [hq0] at h
                  injection h with h
                  injection h with h1 h2
                  exact h1.symm
                have HR := hide (show toks l = .ok (ts ++ [(endT, 0)]) by
                  rw [← hcont.out, hq0, toksF_end HNf.out]
                  rfl)
                have HO3 := hown3.out
                rw [ht, hq0] at HO3
                simp only [Exit.jump]
                first | rw [Exit.noGoto_ret] | skip
                refine bodyPost_ret (v := .tuple #[.slice (some ⟨gg, 0, none⟩) (ts.length + 1) cap', .agg #[.int .i64 0, .int .i64 0]]) ?_ rfl ⟨?_, ?_⟩
                · simp [results, Tryz.results51, go_sem, k0, k1]
                · unfold TksOut
                  rw [HR.out]
                  refine ⟨_, rfl, ?_⟩
                  rw [List.length_append]
                  exact owns_set2 HO3 _ _
                · exact (((Below.refl w.heap.size w).alloc (Nat.le_refl _) F2).trans (B3.out.mono (Nat.le_succ _))).setCell (Nat.le_refl _) _ |>.setCell (Nat.le_refl _) _
        · have hr2 := suf_drop hsuf
          rw [List.drop_drop] at hr2
          have j2 : (0 : Int) < (((l.drop k).length - r.length : Nat) : Int) := by omega
          have j3 : (((l.drop k).length - r.length : Nat) : Int) ≤ 65536 := by have := HL.out; omega
          have HC2 := hide (show contT ts (toksF (f + 1) ts.length (l.drop (k + ((l.drop k).length - r.length)))) = toks l by rw [← hcont.out, toksF_gap hgp hne, ← hr2])
          obtain ⟨z, HZ⟩ : ∃ z, Hid ((l.drop k).length - r.length = z) := ⟨_, rfl⟩
          rw [HZ.out] at j2 j3 HC2
          simp only [HZ.out] at cg
          have hkz : k + z ≤ l.length := by have := HZ.out; omega
          generalize (⟨(l.drop k).toArray⟩ : ByteArray) = q at *
          clear hgp hcont hql HX CGp CTk GW HG hsuf hrl hr2 hne HZ
          go_wp2_with fail
          refine cg.mono ?_
          rintro e w1 ⟨rfl, hw1⟩
          subst hw1
          go_wp2
          go_step3
          refine ⟨rfl, ⟨k + z, f, ts, lv, _, _, _, _, _, _, _, _, _, _, _, _, _, _, _, _, _, _, _, _, _, _, _, _, _, _, _, _, _, _, _, _, _, _, _, _, _, _, _, _, _, _, _, _, _, _, _, _, _, _, _, _, _, _, _, _, _, rfl, hkz, by have := hh.out.2.1; omega, HC2.out, hh.out.2.2.2.1, hh.out.2.2.2.2.1, hh.out.2.2.2.2.2⟩, ?_⟩
          simp [atOf, intOf]
          omega
end Go.Proofs.YtkicbmjjbnblfaaGreatDoor
