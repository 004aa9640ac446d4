/- BlockRuns' walk. -/
import Derived.Test.YthifgfhgkdjkfaaDoorMg28
import Derived.Test.YthifgfhgkdjkfaaDoorMg16
import Derived.Test.YthifgfhgkdjkfaaDoorMg15
namespace Go.Proofs.YthifgfhgkdjkfaaDoor
open Go.RowKit
theorem may_len {fl : List (Int × Bool)} {c : List Int} {now : Int} (h : mayP fl c now = 0) : c.length = fl.length := by
  unfold mayP at h
  by_cases a : c.length = fl.length
  · exact a
  · rw [if_neg a] at h; exact absurd h (by decide)
theorem runP_len {k : Int} (hk : 1 ≤ k ∧ k ≤ 10) : ∀ (cl : List (Int × List Int)) (c : List Int), c.length = (fldK k).length → (runP k cl c).2 = 0 → (runP k cl c).1.length = (fldK k).length
  | [], c, h, _ => h
  | (now, ins) :: r, c, h, h2 => by
    rw [runP] at h2 ⊢
    by_cases a : setN (fldK k) < ins.length
    · rw [if_pos a] at h2; exact absurd h2 (by show ¬ (4 : Int) = 0; decide)
    · rw [if_neg a] at h2 ⊢
      by_cases b : mayP (fldK k) (putL ins c) now = 0
      · rw [if_pos b] at h2 ⊢
        exact runP_len hk r _ (stepL_len' hk _ _) h2
      · rw [if_neg b] at h2
        exact absurd h2 b
theorem runA_len {k : Int} {c : List Int} {cl : List (Int × List Int)} (h : (runA k c cl).2 = 0) : (runA k c cl).1.length = (fldK k).length := by
  by_cases a : (1 ≤ k ∧ k ≤ 10) ∧ mayP (fldK k) c 0 = 0
  · rw [runA_ok a.1 a.2] at h ⊢
    exact runP_len a.1 cl c (may_len a.2) h
  · obtain ⟨e, h2⟩ := runA_no (cl := cl) a
    rw [e] at h
    have h3 : chkE k c = 0 := h
    omega
theorem ILst.of_owns2 {w : World} {base : Nat} {v : Value} {l : List Int} (h : w.ownsRow base 2 1 v l.length (intC l)) : ILst w v l := by
  rcases h.2 with ⟨hv, h0⟩ | ⟨g, cap, cur, hv, hb, hg, hn, hm, hc, ht⟩
  · obtain rfl := List.eq_nil_of_length_eq_zero h0
    subst hv
    exact ILst.nil w 0
  · subst hv
    refine ⟨_, g, 0, cap, rfl, fun _ => ⟨(Array.getElem?_eq_some_iff.1 hg).1, rfl⟩, fun i x hx => ?_⟩
    have hi : i < l.length := (List.getElem?_eq_some_iff.1 hx).1
    rw [Nat.zero_add, h.cellAt i (by omega), intC_get, hx]; rfl
theorem CLst.on {w w' : World} {v : Value} {cl : List (Int × List Int)} (h : CLst w v cl) (hb : Below w.heap.size w w') : CLst w' v cl := by
  obtain ⟨a, b, off, cap, rfl, hA, hC⟩ := h
  refine ⟨a, b, off, cap, rfl, fun h0 => ⟨Nat.lt_of_lt_of_le (hA h0).1 hb.size, (hA h0).2⟩, fun i q hq => ?_⟩
  obtain ⟨h1, sv, h2, h3⟩ := hC i q hq
  have hlt : b < w.heap.size := (hA (by have := (List.getElem?_eq_some_iff.1 hq).1; omega)).1
  exact ⟨(hb.cell (p := ⟨b, off + i * 2, none⟩) hlt).trans h1, sv, (hb.cell (p := ⟨b, off + i * 2 + 1, none⟩) hlt).trans h2, h3.on hb⟩
theorem info35 : (Tryd.prog.info? 35).map (fun i => (i.zero, i.size, i.bytes)) = some (some (.agg #[.int .i64 0, .slice none 0 0]), 2, 32) := by kernel_rfl
set_option maxRecDepth 100000 in
set_option maxHeartbeats 3200000 in
theorem runs_any (k : Int) (cv : Value) (c : List Int) (v : Value) (cl : List (Int × List Int)) (w : World) (hC : ILst w cv c) (hlen : c.length * 8 ≤ 140737488351232) (hV : CLst w v cl) (hg : Glo w) :
    Calls Tryd.prog 4 #[.int .i64 k, cv, v] w fun e w' => e = .returned (.bool true) ∧ Below w.heap.size w w' := by
  have HG : Hid (∀ W, Below w.heap.size w W → Glo W) := fun W h => hg.below h hg.lt
  have mw : Hid (∀ W, Below w.heap.size w W → Calls Tryd.prog 15 #[] W fun e w' => e = .returned (.bool true) ∧ Below W.heap.size W w') := fun W h => works_any W (HG.out W h)
  obtain ⟨svs, va, vb, voff, vcap, hv, hsl, hvA, hvI⟩ := hV.slices
  by_cases hbig : 200 < cl.length
  · subst hv
    have j1 : (200 : Int) < (cl.length : Int) := by omega
    generalize cl.length = n at *
    clear hC hlen hV hsl hvA hvI hbig hg
    have B0 := hide (Below.refl w.heap.size w)
    go_enter Tryd.func4, Tryd.ntmps4
    go_wp2_with fail
    refine (mw.out _ B0.out).mono ?_
    rintro e w1 ⟨rfl, b1⟩
    go_wp2
    go_ret
    exact ⟨rfl, b1⟩
  · have m16 : Hid (∀ W cv', Below w.heap.size w W → ILst W cv' c → Calls Tryd.prog 16 #[.int .i64 k, cv', v] W fun e w' => RunQ (runA k c cl) (fldK k).length e w' ∧ Below W.heap.size W w') := fun W cv' hb h => run_any k cv' c v cl W h (hV.on hb) (by omega) (HG.out W hb)
    have m17 : Hid (∀ W v', Below w.heap.size w W → CLst W v' cl → Calls Tryd.prog 17 #[.int .i64 k, cv, v'] W fun e w' => RunQ (runA k c cl) (fldK k).length e w' ∧ Below W.heap.size W w') := fun W v' hb h => rrun_any k cv c v' cl W (hC.on hb) h (by omega)
    have HLn : Hid ((runA k c cl).2 = 0 → (runA k c cl).1.length = (fldK k).length) := runA_len
    have h6 : (fldK k).length ≤ 6 := fldK_len k
    have HCC := hide hC
    have HVI := hide hvI
    have HVA := hide hvA
    obtain ⟨i0, hi, hz0, hz1, hz2⟩ := info_parts info35
    obtain ⟨n, hn⟩ : ∃ n, n = cl.length := ⟨_, rfl⟩
    rw [← hn] at hv hbig
    subst hv
    have HN := hide hn
    have n0 : (0 : Int) ≤ (n : Int) := by omega
    have n5 : (n : Int) ≤ 200 := by omega
    obtain ⟨ca, cb, coff, ccap, hcv, -, -⟩ := hC
    obtain ⟨cn, hcn⟩ : ∃ n, n = c.length := ⟨_, rfl⟩
    rw [← hcn] at hcv hlen
    have HCN := hide hcn
    subst hcv
    have HSL := hide hsl
    clear hV hvA hvI hg hn hcn hsl
    generalize (fldK k).length = N at *
    generalize runA k c cl = r at *
    obtain ⟨r1, r2⟩ := r
    go_enter Tryd.func4, Tryd.ntmps4
    go_wp2_with fail
    go_loopw [7, 8] (fun b i wr => ∃ (j : Nat) (b' : Value), j ≤ n ∧ i = .int .i64 (j : Int) ∧ b' = b ∧ Hid (wr.ownsRow w.heap.size 35 2 b' j (rowC (cl.take j) (svs.take j)) ∧ Below w.heap.size w wr)) (fun _ i _ => n - (intOf i).toNat)
    case atStart => exact ⟨0, _, by omega, rfl, rfl, World.ownsRow_nil _ _ _ _, Below.refl _ _⟩
    case round =>
    obtain ⟨j, b, hj, rfl, rfl, hh⟩ := hrel
    have OO := hide hh.out.1
    have BB := hide hh.out.2
    have zr := BB.out.size
    have k0 : (0 : Int) ≤ (j : Int) := by omega
    clear hh
    by_cases hlt : j < n
    · have j1 : (j : Int) < (n : Int) := by omega
      obtain ⟨q, hq⟩ : ∃ q, cl[j]? = some q := ⟨_, List.getElem?_eq_getElem (by rw [← HN.out]; exact hlt)⟩
      obtain ⟨hvb, rfl⟩ := HVA.out (by rw [← HN.out]; omega)
      obtain ⟨sv, hs1, hs2, hs3, hs4⟩ := HVI.out j q hq
      obtain ⟨sa, sb, soff, sc, rfl, -, -⟩ := hs4
      have HT := hide (rowC_next hq hs1)
      obtain ⟨now, ins⟩ := q
      obtain ⟨sn, hsn⟩ : ∃ n, n = ins.length := ⟨_, rfl⟩
      simp only [← hsn] at hs1 hs3 HT
      have d1 := (BB.out.cell (p := ⟨vb, voff + j * 2, none⟩) hvb).trans hs2
      have d2 := (BB.out.cell (p := ⟨vb, voff + j * 2 + 1, none⟩) hvb).trans hs3
      have hob : ∀ r, b.ownBlock = some r → w.heap.size ≤ r := fun r hr => (OO.out.lt r hr).1
      have hvr : vb < wr.heap.size := by omega
      clear hs1 hs2 hs3 hq hsn
      go_wp2_with fail
      have hSS : wr.drew.cell? ⟨vb, voff + j * 2, none⟩ = some (.int .i64 now) ∧ wr.drew.cell? ⟨vb, voff + j * 2 + 1, none⟩ = some (.slice sa sn sc) := ⟨d1, d2⟩
      have OD : Hid (wr.drew.ownsRow w.heap.size 35 2 b j (rowC (cl.take j) (svs.take j))) := OO.out
      have BD := hide BB.out.drew
      have zD : wr.drew.heap.size = wr.heap.size := rfl
      clear OO BB d1 d2
      refine wp_region_held_drew (S := fun W => W.cell? ⟨vb, voff + j * 2, none⟩ = some (.int .i64 now) ∧ W.cell? ⟨vb, voff + j * 2 + 1, none⟩ = some (.slice sa sn sc)) (by kernel_rfl) hSS (fun hSS => ?_)
      refine tkH 0 (b) hSS ?_
      try simp only [Act.put, List.setIfInBounds_toArray, List.set_cons_zero, List.set_cons_succ]
      refine tkH 1 (.slice (some ⟨vb, voff, none⟩) n vcap) hSS ?_
      try simp only [Act.put, List.setIfInBounds_toArray, List.set_cons_zero, List.set_cons_succ]
      refine tkH 2 (.int .i64 (j : Int)) hSS ?_
      try simp only [Act.put, List.setIfInBounds_toArray, List.set_cons_zero, List.set_cons_succ]
      refine tkH 3 (.pointer (some ⟨vb, voff + j * 2, none⟩)) hSS ?_
      try simp only [Act.put, List.setIfInBounds_toArray, List.set_cons_zero, List.set_cons_succ]
      refine tkH 4 (.pointer (some ⟨vb, voff + j * 2, none⟩)) hSS ?_
      try simp only [Act.put, List.setIfInBounds_toArray, List.set_cons_zero, List.set_cons_succ]
      refine tkH 5 (.int .i64 now) hSS ?_
      try simp only [Act.put, List.setIfInBounds_toArray, List.set_cons_zero, List.set_cons_succ]
      refine tkH 6 (.slice (some ⟨vb, voff, none⟩) n vcap) hSS ?_
      try simp only [Act.put, List.setIfInBounds_toArray, List.set_cons_zero, List.set_cons_succ]
      refine tkH 7 (.int .i64 (j : Int)) hSS ?_
      try simp only [Act.put, List.setIfInBounds_toArray, List.set_cons_zero, List.set_cons_succ]
      refine tkH 8 (.pointer (some ⟨vb, voff + j * 2, none⟩)) hSS ?_
      try simp only [Act.put, List.setIfInBounds_toArray, List.set_cons_zero, List.set_cons_succ]
      refine tkH 9 (.pointer (some ⟨vb, voff + j * 2 + 1, none⟩)) hSS ?_
      try simp only [Act.put, List.setIfInBounds_toArray, List.set_cons_zero, List.set_cons_succ]
      refine tkH 10 (.slice sa sn sc) hSS ?_
      try simp only [Act.put, List.setIfInBounds_toArray, List.set_cons_zero, List.set_cons_succ]
      refine tkH 11 (.agg #[.int .i64 now, .slice sa sn sc]) hSS ?_
      try simp only [Act.put, List.setIfInBounds_toArray, List.set_cons_zero, List.set_cons_succ]
      refine rdH 12 (fun K hK => ?_)
      go_simp
      have hSA : ∀ A, (wr.drew.alloc A).cell? ⟨vb, voff + j * 2, none⟩ = some (.int .i64 now) ∧ (wr.drew.alloc A).cell? ⟨vb, voff + j * 2 + 1, none⟩ = some (.slice sa sn sc) := fun A => ⟨(World.cell?_alloc_lt _ _ ⟨vb, voff + j * 2, none⟩ hvr).trans hSS.1, (World.cell?_alloc_lt _ _ ⟨vb, voff + j * 2 + 1, none⟩ hvr).trans hSS.2⟩
      refine hK.out _ _ (hSA _) (fun _ => ?_)
      clear hK K
      try simp only [Act.put, List.setIfInBounds_toArray, List.set_cons_zero, List.set_cons_succ]
      refine rdH 13 (fun K hK => ?_)
      refine wp_append_lies _ _ _ _ (by rfl) w.heap.size 35 i0 _ 2 32 Tryd.underlying32 hi hz0 hz1 hz2 rfl (by omega) b j _ (by rfl) (OD.out.alloc _) ⟨wr.drew.heap.size, 0, none⟩ 1 1 [.int .i64 now, .slice sa sn sc] (by rfl) (by rfl) (World.news_of_block (cs := #[.int .i64 now, .slice sa sn sc]) (t := 35) (fr := (0, 0)) (heap_alloc_new wr.drew _)) (by simp [Value.oneCell']) (by omega) (by unfold maxLen; omega) (by omega) (by simp; omega) (wr.drew.heap.size + 1) (by simp) ?_
      intro gg cap' w3 hown3 hgrow hat hlt3
      have B3 := hide ((BD.out.alloc (by omega) _).grown hgrow (by simp; omega) hob)
      have hSB : w3.cell? ⟨vb, voff + j * 2, none⟩ = some (.int .i64 now) ∧ w3.cell? ⟨vb, voff + j * 2 + 1, none⟩ = some (.slice sa sn sc) := by
        have hb9 : w3.heap[vb]? = wr.drew.heap[vb]? := (B3.out.block vb hvb).trans (BD.out.block vb hvb).symm
        exact ⟨(World.cell?_of_block (w := wr.drew) (a := ⟨vb, voff + j * 2, none⟩) hb9).trans hSS.1, (World.cell?_of_block (w := wr.drew) (a := ⟨vb, voff + j * 2 + 1, none⟩) hb9).trans hSS.2⟩
      refine hK.out _ _ hSB (fun hSB => ?_)
      clear hK K
      try simp only [Act.put, List.setIfInBounds_toArray, List.set_cons_zero, List.set_cons_succ]
      refine tkH 14 (.slice (some ⟨gg, 0, none⟩) (j + 1) cap') hSB ?_
      try simp only [Act.put, List.setIfInBounds_toArray, List.set_cons_zero, List.set_cons_succ]
      refine wpAnyH_done (by kernel_rfl) ?_ _
      clear hSS hSA hSB
      go_wp2
      go_roundw
      case rel => exact ⟨j + 1, _, by omega, by go_num, rfl, by rw [HT.out]; exact hown3, B3.out⟩
      case measure => simp [intOf]; omega
    · obtain rfl : j = n := by omega
      have HV2 : Hid (CLst wr b cl) := by
        have ho := OO.out
        have hsl : svs.length = j := by rw [HSL.out, HN.out]
        rw [List.take_of_length_le (by rw [HN.out]; exact Nat.le_refl _), List.take_of_length_le (by rw [hsl]; exact Nat.le_refl _), HN.out] at ho
        refine CLst.of_owns ho fun i q hq => ?_
        obtain ⟨sv, h1, -, -, h4⟩ := HVI.out i q hq
        exact ⟨sv, h1, h4.on BB.out⟩
      obtain ⟨ba, bcap, hbv, -⟩ := owns_slice OO.out
      subst hbv
      clear OO
      go_wp2_with (at_builtin; refine wpList_append_nums (by rfl) _ _ (by rfl) w.heap.size 0 _ _ (by rfl) (own_none2 _ _ BB.out.size) _ c (by rfl) (HCC.out.on (blw_alloc BB.out _)) (by rw [← HCN.out]; omega) (Nat.le_trans BB.out.size (by simp)) ?_; intro v' w2 hown hgr; have HB2 := hide (below_app2 (blw_alloc BB.out (.cells #[] 2)) (Nat.le_trans BB.out.size (by simp)) (own_none2 _ _ BB.out.size) hgr); have L2 : Hid (ILst w2 v' c) := ILst.of_owns2 (by rw [Nat.zero_add] at hown; exact hown); have V2 := hide (HV2.out.on (below_app2 (w := wr) ((Below.refl wr.heap.size wr).alloc (Nat.le_refl _) (.cells #[] 2)) (by simp) (own_none2 _ _ (Nat.le_refl _)) hgr)))
      clear hown hgr HV2
      refine (m16.out _ _ HB2.out L2.out).mono ?_
      rintro e w3 ⟨hq, b3⟩
      have B3 := hide (blw HB2.out b3)
      have V3 := hide (V2.out.on b3)
      clear b3 m16 L2 V2 HB2
      rcases hq with ⟨h0, g, cap, rfl, hrw⟩ | ⟨h0, h1, rfl⟩
      · have h0' : r2 = 0 := h0
        subst h0'
        have hN : N = r1.length := (HLn.out rfl).symm
        have I3 := hide (hrw.ilst N cap hN)
        have HNN := hide hN
        clear hrw h0 hN HLn
        go_wp2_with fail
        refine (m17.out _ _ B3.out V3.out).mono ?_
        rintro e w4 ⟨hq, b4⟩
        have B4 := hide (blw B3.out b4)
        have I4 := hide (I3.out.on b4)
        clear b4 m17 V3 B3 I3
        rcases hq with ⟨-, g', cap', rfl, hrw⟩ | ⟨h0, -, -⟩
        · have J4 := hide (hrw.ilst N cap' HNN.out)
          have M4 := hide (sameNums_one _ _ r1 w4 I4.out J4.out (by rw [← HNN.out]; omega))
          clear hrw I4 J4 HNN
          go_wp2_with fail
          refine M4.out.mono ?_
          rintro e w5 ⟨rfl, b5⟩
          have B5 := hide (blw B4.out b5)
          clear b5 M4 B4
          go_wp2_with fail
          refine (mw.out _ B5.out).mono ?_
          rintro e w6 ⟨rfl, b6⟩
          have B6 := hide (blw B5.out b6)
          clear b6 B5 mw
          go_wp2
          go_ret
          exact ⟨rfl, B6.out⟩
        · exact absurd rfl h0
      · have h1' : r1 = [] := h1
        subst h1'
        have hb : (r2 == 0) = false := by simpa using h0
        have HH0 : Hid (r2 ≠ 0) := h0
        clear h0 h1 HLn
        go_wp2_with fail
        refine (m17.out _ _ B3.out V3.out).mono ?_
        rintro e w4 ⟨hq, b4⟩
        have B4 := hide (blw B3.out b4)
        clear b4 m17 V3 B3
        rcases hq with ⟨h0, -⟩ | ⟨-, -, rfl⟩
        · exact absurd h0 HH0.out
        · have M4 := hide (sameNums_one _ _ [] w4 (ILst.nil w4 0) (ILst.nil w4 0) (by simp))
          go_wp2_with fail
          refine M4.out.mono ?_
          rintro e w5 ⟨rfl, b5⟩
          have B5 := hide (blw B4.out b5)
          clear b5 M4 B4
          go_wp2_with fail
          refine (mw.out _ B5.out).mono ?_
          rintro e w6 ⟨rfl, b6⟩
          have B6 := hide (blw B5.out b6)
          clear b6 B5 mw
          go_wp2
          go_ret
          exact ⟨rfl, B6.out⟩
theorem runs_row (k : Int) (cv : Value) (c : List Int) (v : Value) (cl : List (Int × List Int)) (w : World) (hC : ILst w cv c) (hlen : c.length * 8 ≤ 140737488351232) (hV : CLst w v cl) (hg : Glo w) :
    Calls Tryd.prog 4 #[.int .i64 k, cv, v] w fun e w' => e = .returned (.bool true) ∧ Below w.heap.size w w' := runs_any k cv c v cl w hC hlen hV hg
end Go.Proofs.YthifgfhgkdjkfaaDoor
