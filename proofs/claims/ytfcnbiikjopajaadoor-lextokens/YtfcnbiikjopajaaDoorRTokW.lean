/- The contract of the document's Tokens. -/
import Derived.Test.YtfcnbiikjopajaaDoorROneW
import Derived.Test.YtfcnbiikjopajaaDoorToksP
namespace Go.Proofs.YtfcnbiikjopajaaDoor
open Go.RowKit
theorem tF_err {f cnt : Nat} {m b : Bs} (hs : skip m = .error b) : toksF (f + 1) cnt m = .error (b.length, 50) := by rw [toksF, hs]
theorem tF_long {f cnt : Nat} {m r : Bs} (hs : skip m = .ok r) (h : 4096 ≤ cnt) : toksF (f + 1) cnt m = .error (r.length, 2) := by
  rw [toksF, hs]
  simp only [if_pos h]
theorem tF_end {f cnt : Nat} {m : Bs} (hs : skip m = .ok []) (h : ¬ 4096 ≤ cnt) : toksF (f + 1) cnt m = .ok [(endT, 0)] := by
  rw [toksF, hs]
  simp only [if_neg h]
theorem tF_none {f cnt : Nat} {m r : Bs} (hs : skip m = .ok r) (h : ¬ 4096 ≤ cnt) (hl : r ≠ []) (ho : oneTok r = none) : toksF (f + 1) cnt m = .error (r.length, 50) := by
  match r, hl with
  | c :: q, _ =>
    rw [toksF, hs]
    simp only [if_neg h, ho, List.length_cons]
theorem tF_some {f cnt : Nat} {m l r : Bs} {t : Tk} (hs : skip m = .ok l) (h : ¬ 4096 ≤ cnt) (ho : oneTok l = some (t, r)) : toksF (f + 1) cnt m = (match toksF f (cnt + 1) r with | .error e => .error e | .ok ts => .ok ((t, l.length) :: ts)) := by
  match l, ho with
  | c :: q, ho =>
    rw [toksF, hs]
    simp only [if_neg h, ho, List.length_cons]
    rfl
theorem skipF_err : ∀ {n : Nat} {l b : Bs}, skipF n l = .error b → b <:+ l
  | 0, l, b, h => by cases h
  | n + 1, [], b, h => by cases h
  | n + 1, c :: r, b, h => by
    unfold skipF at h
    simp only [] at h
    have key : ∀ {q : Bs}, skipF n q = .error b → q <:+ c :: r → b <:+ c :: r := fun hq hs => (skipF_err hq).trans hs
    have hr : r <:+ c :: r := List.suffix_cons _ _
    split at h
    · exact key h hr
    · split at h
      · split at h
        · injection h with h; rw [← h]; exact List.suffix_refl _
        · next q hq =>
          refine key h ?_
          have e := findP_note r.tail
          rw [hq] at e
          cases hf : findP [42, 41] r.tail with
          | none => rw [hf] at e; cases e
          | some i =>
            rw [hf] at e
            injection e with e
            rw [e]
            exact (List.drop_suffix _ _).trans ((List.tail_suffix r).trans hr)
      · split at h
        · refine key h ?_
          have e := findP_line r
          rw [e]
          split
          · exact List.nil_suffix
          · exact (List.drop_suffix _ _).trans hr
        · split at h
          · split at h
            · injection h with h; rw [← h]; exact List.suffix_refl _
            · next q hq =>
              refine key h ?_
              have e := findP_brace r
              rw [hq] at e
              cases hf : findP [125] r with
              | none => rw [hf] at e; cases e
              | some i =>
                rw [hf] at e
                injection e with e
                rw [e]
                exact (List.drop_suffix _ _).trans hr
          · cases h
set_option maxRecDepth 100000 in
set_option maxHeartbeats 6400000 in
theorem rtokens_any (l : Bs) (w : World) : Calls Tryd.prog 10 #[.string ⟨l.toArray⟩] w fun e w' => TksOut w.heap.size l e w' ∧ Below w.heap.size w w' := by
  have hsz := hide (list_size l)
  have HFa := hide fun p c W => rfault_any p c W
  by_cases hlong : 65536 < l.length
  · have HT := hide (show toks l = .error (l.length, 2) by unfold toks; rw [if_pos hlong])
    have i1 : (65536 : Int) < ((⟨l.toArray⟩ : ByteArray).size : Int) := by have := hsz.out; omega
    have cf := HFa.out 0 2
    generalize (⟨l.toArray⟩ : ByteArray) = s at *
    clear hlong HFa
    go_enter Tryd.func10, Tryd.ntmps10
    go_wp2_with fail
    refine (cf _).mono ?_
    rintro e w1 ⟨rfl, hb⟩
    rw [World.size_alloc] at hb
    obtain ⟨⟨k0, k1⟩, f0, f1⟩ := rezF hb
    have HB := hide (((Below.refl w.heap.size w).alloc (Nat.le_refl _) F2).trans (hb.mono (Nat.le_succ _)))
    clear hb cf
    go_wp2
    refine bodyPost_ret (v := .tuple #[.slice none 0 0, .agg #[.int .i64 0, .int .i64 2]]) ?_ rfl ⟨?_, ?_⟩
    · simp [results, Tryd.results10, go_sem, k0, k1]
    · unfold TksOut
      rw [HT.out]
      simp
    · exact (HB.out.setCell (Nat.le_refl _) _).setCell (Nat.le_refl _) _
  · have HT := hide (show toks l = toksF (l.length + 1) 0 l by unfold toks; rw [if_neg hlong])
    have i1 : ¬ (65536 : Int) < ((⟨l.toArray⟩ : ByteArray).size : Int) := by have := hsz.out; omega
    have HL := hide (show l.length ≤ 65536 by omega)
    have CSk := hide fun (k : Nat) (h : k ≤ l.length) (W : World) => rskip_any l k (by omega) h W
    have COn := hide fun (k : Nat) (h : k < l.length) (W : World) => rone_any l k (by omega) h W
    generalize (⟨l.toArray⟩ : ByteArray) = s at *
    clear hlong
    go_enter Tryd.func10, Tryd.ntmps10
    go_wp2_with fail
    go_loopw [4, 5] (fun lv a wr => ∃ (k f : Nat) (ts : List (Tk × Nat)) (lv' : Value), a = .int .i64 (k : Int) ∧ lv' = lv ∧ Hid (k ≤ l.length ∧ l.length - k ≤ f ∧ contT ts (toksF (f + 1) ts.length (l.drop k)) = toks l ∧ ts.length ≤ 4096 ∧ wr.ownsRow (w.heap.size + 1) 41 5 lv' ts.length (tksC l.length ts) ∧ Below (w.heap.size + 1) (w.alloc F2) wr)) (fun _ a _ => l.length - (intOf a).toNat)
    case atStart => exact ⟨0, l.length, [], _, rfl, rfl, by omega, by omega, by rw [HT.out, cont_nil]; rfl, by simp, World.ownsRow_nil _ _ _ _, Below.refl _ _⟩
    case round =>
      obtain ⟨k, f, ts, lv', rfl, hlv, hh⟩ := hrel
      subst hlv
      have hk := hh.out.1
      have csk := CSk.out k hk
      obtain ⟨a0, cap0, hlv⟩ := own_form hh.out.2.2.2.2.1
      subst hlv
      obtain ⟨⟨k0, k1⟩, f0, f1⟩ := rezF hh.out.2.2.2.2.2
      have HBW := hide (((Below.refl w.heap.size w).alloc (Nat.le_refl _) F2).trans (hh.out.2.2.2.2.2.mono (Nat.le_succ _)))
      have zw : w.heap.size + 1 ≤ wr.heap.size := by have := hh.out.2.2.2.2.2.size; rw [World.size_alloc] at this; exact this
      cases hs : skip (l.drop k) with
      | error b =>
        rw [hs] at csk
        have HR := hide (show toks l = .error (b.length, 50) by rw [← hh.out.2.2.1, tF_err hs]; rfl)
        have hbl : b.length ≤ l.length := by have := (skipF_err hs).length_le; rw [List.length_drop] at this; omega
        simp only [skipV] at csk
        obtain ⟨p, hp⟩ : ∃ p : Int, p = ((l.length - b.length : Nat) : Int) := ⟨_, rfl⟩
        rw [← hp] at csk
        have HPp := hide hp
        have cf := HFa.out p 50
        have hBF := hh.out.2.2.2.2.2
        clear hs CSk COn HFa hp hk hbl HT
        go_wp2_with fail
        refine (csk _).mono ?_
        rintro e w1 ⟨rfl, hw1⟩
        subst hw1
        clear csk
        go_wp2_with fail
        refine (cf _).mono ?_
        rintro e w2 ⟨rfl, hb⟩
        have hB2 := hBF.trans (hb.mono zw)
        obtain ⟨⟨k0, k1⟩, f0, f1⟩ := rezF hB2
        have HB := hide (((Below.refl w.heap.size w).alloc (Nat.le_refl _) F2).trans (hB2.mono (Nat.le_succ _)))
        clear hb cf hBF hB2 hh
        go_wp2
        refine bodyPost_ret (v := .tuple #[.slice none 0 0, .agg #[.int .i64 p, .int .i64 50]]) ?_ rfl ⟨?_, ?_⟩
        · simp [results, Tryd.results10, go_sem, k0, k1]
        · unfold TksOut
          rw [HR.out]
          simp only [← HPp.out]
        · exact (HB.out.setCell (Nat.le_refl _) _).setCell (Nat.le_refl _) _
      | ok r =>
        rw [hs] at csk
        simp only [skipV] at csk
        have hsuf := (skip_suf hs).trans (List.drop_suffix k l)
        have hrk : r.length ≤ l.length - k := by have := (skip_suf hs).length_le; rw [List.length_drop] at this; exact this
        obtain ⟨q, hq⟩ : ∃ q : Nat, q = l.length - r.length := ⟨_, rfl⟩
        rw [← hq] at csk
        have hrd : r = l.drop q := by rw [hq]; exact (List.suffix_iff_eq_drop.1 hsuf)
        have hql : q ≤ l.length := by omega
        have HE := hide (rest_len hql)
        rw [hrd] at hs
        have q0 : (0 : Int) ≤ (q : Int) := by omega
        have qb : (q : Int) ≤ 65536 := by have := HL.out; omega
        have HKQ := hide (show k ≤ q by omega)
        have HS := hide hs
        have HH := hide hh.out
        have n48 : (ts.length : Int) ≤ 4096 := by have := hh.out.2.2.2.1; omega
        clear hs hsuf hrk hq hrd CSk hk HT hh
        by_cases hfull : 4096 ≤ ts.length
        · have i2 : (4096 : Int) ≤ (ts.length : Int) := by omega
          have HR := hide (show toks l = .error ((l.drop q).length, 2) by rw [← HH.out.2.2.1, tF_long HS.out hfull]; rfl)
          have cf := HFa.out (q : Int) 2
          have hBF := HH.out.2.2.2.2.2
          clear COn HFa hfull
          go_wp2_with fail
          refine (csk _).mono ?_
          rintro e w1 ⟨rfl, hw1⟩
          subst hw1
          clear csk
          go_wp2_with fail
          refine (cf _).mono ?_
          rintro e w2 ⟨rfl, hb⟩
          have hB2 := hBF.trans (hb.mono zw)
          obtain ⟨⟨k0, k1⟩, f0, f1⟩ := rezF hB2
          have HB := hide (((Below.refl w.heap.size w).alloc (Nat.le_refl _) F2).trans (hB2.mono (Nat.le_succ _)))
          clear hb cf hBF hB2 HH
          go_wp2
          refine bodyPost_ret (v := .tuple #[.slice none 0 0, .agg #[.int .i64 (q : Int), .int .i64 2]]) ?_ rfl ⟨?_, ?_⟩
          · simp [results, Tryd.results10, go_sem, k0, k1]
          · unfold TksOut
            rw [HR.out]
            simp only [HE.out]
          · exact (HB.out.setCell (Nat.le_refl _) _).setCell (Nat.le_refl _) _
        · have i2 : ¬ (4096 : Int) ≤ (ts.length : Int) := by omega
          have HNf := hide hfull
          obtain ⟨i0, hi, hz0, hz1, hz2⟩ := info_parts in41
          have HO := hide HH.out.2.2.2.2.1
          have hlt := HO.out.lt
          by_cases hqe : q = l.length
          · have g1 : ((q : Int) == (s.size : Int)) = true := by have := hsz.out; rw [beq_iff_eq]; omega
            have hdn : l.drop q = [] := List.drop_of_length_le (by omega)
            have HR := hide (show toks l = .ok (ts ++ [(endT, 0)]) by rw [← HH.out.2.2.1, tF_end (hdn ▸ HS.out) HNf.out]; rfl)
            have HTC : Hid (tksC l.length ts ++ [.int .i64 4, .string ⟨#[]⟩, .int .i64 0, .int .i64 0, .int .i64 (q : Int)] = tksC l.length (ts ++ [(endT, 0)])) := by
              show _ = _
              rw [tksC_snoc]
              unfold tkC endT
              simp only []
              rw [show ((l.length - 0 : Nat) : Int) = (q : Int) by omega]
            have hBF := HH.out.2.2.2.2.2
            clear COn HFa hfull hdn hqe k0 k1 f0 f1 HBW HH
            go_wp2_with fail
            refine (csk _).mono ?_
            rintro e w1 ⟨rfl, hw1⟩
            subst hw1
            clear csk
            go_wp2_with (at_builtin; go_must (refine wpList_append_lies _ (by rfl) _ _ _ (by rfl) (w.heap.size + 1) 41 i0 _ 5 48 Tryd.underlying22 hi hz0 hz1 hz2 rfl (by omega) _ ts.length _ (by rfl) (HO.out.alloc _) ⟨w1.heap.size, 0, none⟩ 1 1 [.int .i64 4, .string ⟨#[]⟩, .int .i64 0, .int .i64 0, .int .i64 (q : Int)] (by rfl) (by rfl) (World.news_of_block (cs := #[.int .i64 4, .string ⟨#[]⟩, .int .i64 0, .int .i64 0, .int .i64 (q : Int)]) (t := 41) (fr := (0, 0)) (heap_alloc_new w1 _)) (by simp [Value.oneCell']) (by omega) (by unfold maxLen; omega) (by omega) (by simp; omega) (w1.heap.size + 1) (by simp) ?_; intro gg cap' w3 hown3 hgrow hat3 hlt3; have B3 := (hBF.alloc zw _).grown hgrow (by simp; omega) (fun r hr => (hlt r hr).1); obtain ⟨⟨k0, k1⟩, f0, f1⟩ := rezF B3; rw [HTC.out] at hown3; replace hown3 := hide hown3; replace B3 := hide B3; clear hgrow hat3 hlt3 hBF))
            refine bodyPost_ret (v := .tuple #[.slice (some ⟨gg, 0, none⟩) (ts.length + 1) cap', .agg #[.int .i64 0, .int .i64 0]]) ?_ rfl ⟨?_, ?_⟩
            · simp [results, Tryd.results10, go_sem, k0, k1]
            · unfold TksOut
              rw [HR.out]
              refine ⟨_, rfl, ?_⟩
              rw [List.length_append]
              exact owns_set2 hown3.out _ _
            · exact (((Below.refl w.heap.size w).alloc (Nat.le_refl _) F2).trans (B3.out.mono (Nat.le_succ _))).setCell (Nat.le_refl _) _ |>.setCell (Nat.le_refl _) _
          · have hqlt : q < l.length := by omega
            have g1 : ((q : Int) == (s.size : Int)) = false := by have := hsz.out; rw [beq_eq_false_iff_ne]; omega
            have con := COn.out q hqlt
            have hBF := HH.out.2.2.2.2.2
            have hne0 : l.drop q ≠ [] := fun e => by have := congrArg List.length e; rw [List.length_drop] at this; simp at this; omega
            clear COn hfull hqe k0 k1 f0 f1 HBW
            go_wp2_with fail
            refine (csk _).mono ?_
            rintro e w1 ⟨rfl, hw1⟩
            subst hw1
            clear csk
            go_wp2_with fail
            refine (con _).mono ?_
            rintro e w2 ⟨⟨v, rfl, hv⟩, hb1⟩
            clear con
            have B1 := hBF.trans (hb1.mono zw)
            have o1 := owns_below HO.out hb1
            have zl := hb1.size
            cases hto : oneTok (l.drop q) with
            | none =>
              rw [hto] at hv
              obtain ⟨t, n, rfl⟩ := hv
              have HR := hide (show toks l = .error ((l.drop q).length, 50) by rw [← HH.out.2.2.1, tF_none HS.out HNf.out hne0 hto]; rfl)
              have cf := HFa.out (q : Int) 50
              have hAL := fun o => B1.alloc (o := o) (by omega)
              have HAL := hide hAL
              clear hto hb1 B1 o1 HO hAL hi hz0 hz1 hz2 hne0 HH HFa hBF hlt
              unfold tkA
              go_wp2_with fail
              refine (cf _).mono ?_
              rintro e w3 ⟨rfl, hb⟩
              have hB2 := (HAL.out _).trans (hb.mono (by simp; omega))
              obtain ⟨⟨k0, k1⟩, f0, f1⟩ := rezF hB2
              have HB := hide (((Below.refl w.heap.size w).alloc (Nat.le_refl _) F2).trans (hB2.mono (Nat.le_succ _)))
              clear hb cf hB2 HAL
              go_wp2
              refine bodyPost_ret (v := .tuple #[.slice none 0 0, .agg #[.int .i64 (q : Int), .int .i64 50]]) ?_ rfl ⟨?_, ?_⟩
              · simp [results, Tryd.results10, go_sem, k0, k1]
              · unfold TksOut
                rw [HR.out]
                simp only [HE.out]
              · exact (HB.out.setCell (Nat.le_refl _) _).setCell (Nat.le_refl _) _
            | some x =>
              obtain ⟨t, r'⟩ := x
              rw [hto] at hv
              obtain rfl : v = _ := hv
              obtain ⟨hsuf2, hlen2⟩ := one_suf hto
              rw [List.length_drop] at hlen2
              have hsuf3 := hsuf2.trans (List.drop_suffix q l)
              obtain ⟨z, hz⟩ : ∃ z : Nat, z = l.length - r'.length := ⟨_, rfl⟩
              have hrd2 : r' = l.drop z := by rw [hz]; exact List.suffix_iff_eq_drop.1 hsuf3
              have HZQ := hide (show q < z ∧ z ≤ l.length by have := hsuf3.length_le; omega)
              have z0 : (0 : Int) ≤ (z : Int) := by omega
              have zb : (z : Int) ≤ 65536 := by have := HL.out; omega
              have HTC : Hid (tksC l.length ts ++ [.int .i64 t.kind, .string ⟨t.s.toArray⟩, .int .i64 t.n, .int .i64 t.ty, .int .i64 (q : Int)] = tksC l.length (ts ++ [(t, (l.drop q).length)])) := by
                show _ = _
                rw [tksC_snoc]
                unfold tkC
                simp only []
                rw [HE.out]
              have hC : Hid (∀ f', f = f' + 1 → contT (ts ++ [(t, (l.drop q).length)]) (toksF (f' + 1) (ts ++ [(t, (l.drop q).length)]).length (l.drop z)) = toks l) := fun f' hf => by
                rw [← HH.out.2.2.1, hf, tF_some HS.out HNf.out hto]
                refine Eq.trans ?_ (cont_cons ts (t, (l.drop q).length) (toksF (f' + 1) (ts.length + 1) r')).symm
                rw [List.length_append, ← hrd2]
                rfl
              have HF3 := hide HH.out.2.1
              rw [← hz]
              clear hto hsuf2 hsuf3 hlen2 hrd2 hne0 HH HFa hz hb1 hBF
              unfold tkA
              generalize (⟨t.s.toArray⟩ : ByteArray) = tS at *
              go_wp2_with (at_builtin; go_must (refine wpList_append_lies _ (by rfl) _ _ _ (by rfl) (w.heap.size + 1) 41 i0 _ 5 48 Tryd.underlying22 hi hz0 hz1 hz2 rfl (by omega) _ ts.length _ (by rfl) ((o1.alloc _).alloc _) ⟨w2.heap.size + 1, 0, none⟩ 1 1 [.int .i64 t.kind, .string tS, .int .i64 t.n, .int .i64 t.ty, .int .i64 (q : Int)] (by rfl) (by rfl) (by rw [show w2.heap.size + 1 = (w2.alloc (.cells #[.int .i64 t.kind, .string tS, .int .i64 t.n, .int .i64 t.ty, .int .i64 (q : Int)] 41)).heap.size by simp]; exact World.news_of_block (cs := #[.int .i64 t.kind, .string tS, .int .i64 t.n, .int .i64 t.ty, .int .i64 (q : Int)]) (t := 41) (fr := (0, 0)) (heap_alloc_new _ _)) (by simp [Value.oneCell']) (by omega) (by unfold maxLen; omega) (by omega) (by simp; omega) (w2.heap.size + 2) (by simp) ?_; intro gg cap' w3 hown3 hgrow hat3 hlt3; have B3 := ((B1.alloc (by omega) _).alloc (by simp; omega) _).grown hgrow (by simp; omega) (fun r hr => (hlt r hr).1); rw [HTC.out] at hown3; replace hown3 := hide hown3; replace B3 := hide B3; clear hgrow hat3 hlt3 o1 B1))
              go_roundw
              case rel =>
                obtain ⟨f', rfl⟩ : ∃ f', f = f' + 1 := ⟨f - 1, by have := HF3.out; have := HKQ.out; omega⟩
                exact ⟨z, f', ts ++ [(t, (l.drop q).length)], _, rfl, rfl, by have := HZQ.out; omega, by have := HF3.out; have := HZQ.out; have := HKQ.out; omega, hC.out f' rfl, by rw [List.length_append]; have := HNf.out; simp; omega, by rw [List.length_append]; exact hown3.out, B3.out⟩
              case measure => simp only [intOf]; have := HZQ.out; have := HKQ.out; omega
end Go.Proofs.YtfcnbiikjopajaaDoor
