/- The walk of the law LexNotes. -/
import Derived.Test.YtfcnbiikjopajaaDoorNotP
import Derived.Test.YtfcnbiikjopajaaDoorAppT
import Derived.Test.YtfcnbiikjopajaaDoorDigL
namespace Go.Proofs.YtfcnbiikjopajaaDoor
open Go.RowKit
set_option maxRecDepth 100000 in
set_option maxHeartbeats 6400000 in
theorem notes_any (a b : Bs) (ha : a.length ≤ 140737488351232) (hb : b.length ≤ 140737488351232) (z : Int) (w : World) (hg : Glo w) : Calls Tryd.prog 6 #[.string ⟨a.toArray⟩, .string ⟨b.toArray⟩, .int .i64 z] w fun e w' => e = .returned (.bool true) ∧ Below w.heap.size w w' := by
  have HG := hide hg
  have c0 := works_any w hg
  have c1 := fun W h => tokens_any a W h
  have c2 := fun W h => tokens_any b W h
  have CO := hide (fun W => open_any a ha W)
  have HZA := hide (list_size a)
  have HZB := hide (list_size b)
  have s0 : ((⟨a.toArray⟩ : ByteArray).size : Int) ≤ 140737488351232 := by rw [list_size]; omega
  have s1 : ((⟨b.toArray⟩ : ByteArray).size : Int) ≤ 140737488351232 := by rw [list_size]; omega
  obtain ⟨sa, hsa⟩ : ∃ sa, sa = (⟨a.toArray⟩ : ByteArray) := ⟨_, rfl⟩
  obtain ⟨sb, hsb⟩ : ∃ sb, sb = (⟨b.toArray⟩ : ByteArray) := ⟨_, rfl⟩
  rw [← hsa] at c1 CO HZA s0 ⊢
  rw [← hsb] at c2 HZB s1 ⊢
  have HSA := hide hsa
  have HSB := hide hsb
  clear hg hsa hsb ha hb
  go_enter Tryd.func6, Tryd.ntmps6
  go_wp2_with fail
  refine c0.mono ?_
  rintro e w0 ⟨rfl, hb0⟩
  have G0 := HG.out.below hb0 HG.out.lt
  clear c0
  go_wp2_with fail
  refine (c1 _ G0).mono ?_
  rintro e w1 ⟨h1, hb1⟩
  obtain ⟨a1, n1, cap1, p1, k1, rfl, H1⟩ := tks_form h1
  have b1 := hb0.trans (hb1.mono hb0.size)
  have B1 := b1.alloc b1.size (.cells #[.int .i64 p1, .int .i64 k1] 25)
  clear c1 h1
  go_wp2_with fail
  refine (c2 _ (HG.out.below B1 HG.out.lt)).mono ?_
  rintro e w2 ⟨h2, hb2⟩
  obtain ⟨a2, n2, cap2, p2, k2, rfl, H2⟩ := tks_form h2
  have B2 := hide (B1.trans (hb2.mono B1.size))
  have z1 : w1.heap.size < w2.heap.size := by have := hb2.size; rw [World.size_alloc] at this; omega
  have z2 := B2.out.size
  have f0 := (hb2.cell (p := ⟨w1.heap.size, 0, none⟩) (by simp)).trans (show _ = some (Value.int .i64 p1) by simp)
  have f1 := (hb2.cell (p := ⟨w1.heap.size, 1, none⟩) (by simp)).trans (show _ = some (Value.int .i64 k1) by simp)
  have m0 : ∀ o, (w2.alloc o).cell? ⟨w1.heap.size, 0, none⟩ = some (.int .i64 p1) := fun o => (World.cell?_alloc_lt _ _ _ z1).trans f0
  have m1 : ∀ o, (w2.alloc o).cell? ⟨w1.heap.size, 1, none⟩ = some (.int .i64 k1) := fun o => (World.cell?_alloc_lt _ _ _ z1).trans f1
  have HB2 := hide hb2
  clear c2 h2 f0 f1 hb0 hb1 hb2 b1 B1 G0
  rcases H1.out with ⟨he, hn⟩ | ⟨rfl, rfl, ts, hts, hn1, ho1⟩
  · subst hn
    rcases he with rfl | rfl
    · clear H1 H2
      go_wp2
      go_ret
      exact ⟨rfl, B2.out.alloc z2 _⟩
    · clear H1 H2
      go_wp2
      go_ret
      exact ⟨rfl, B2.out.alloc z2 _⟩
  rcases H2.out with ⟨he, hn⟩ | ⟨rfl, rfl, us, hus, hn2, ho2⟩
  · subst hn
    rcases he with rfl | rfl
    · clear H1 H2 ho1 hts hn1
      go_wp2
      go_ret
      exact ⟨rfl, B2.out.alloc z2 _⟩
    · clear H1 H2 ho1 hts hn1
      go_wp2
      go_ret
      exact ⟨rfl, B2.out.alloc z2 _⟩
  have HT := hide (And.intro hts hus)
  have HN := hide (And.intro hn1 hn2)
  have HP := hide (lexes_pos (toks_lexes hts).1)
  have HA1 : Hid (Lst w2 (.slice a1 n1 cap1) (ts.map (tvOf a.length))) := (Lst.of_tks ho1).below (((Below.refl _ _).alloc (Nat.le_refl _) _).trans (HB2.out.mono (by simp))) (Nat.le_refl _)
  have HA2 : Hid (Lst w2 (.slice a2 n2 cap2) (us.map (tvOf b.length))) := Lst.of_tks ho2
  obtain ⟨g1, cap1', hv1, hcap1, hg1, -⟩ := TkAt.of_owns ho1 HP.out
  injection hv1 with ev1 ev2 ev3
  subst ev1 ev3
  rw [← hn1] at hcap1
  clear H1 H2 ho1 ho2 hts hus hn1 hn2 HB2 hg1 ev2
  have n14 : (n1 : Int) ≤ 4096 := by have := (toks_lexes HT.out.1).2.1; have := HN.out.1; omega
  have n24 : (n2 : Int) ≤ 4096 := by have := (toks_lexes HT.out.2).2.1; have := HN.out.2; omega
  by_cases hcnt : (4096 : Int) < (n1 : Int) + (n2 : Int)
  · clear HT HN HP HA1 HA2 HZA HZB HSA HSB CO
    have e1 : ¬ (n1 : Int) + (n2 : Int) ≤ 4096 := by omega
    go_wp2
    go_ret
    exact ⟨rfl, B2.out.alloc z2 _⟩
  have e1 : (n1 : Int) + (n2 : Int) ≤ 4096 := by omega
  have HC := hide hcnt
  by_cases hlen : (65516 : Int) < (sa.size : Int) + (sb.size : Int)
  · clear HT HN HP HA1 HA2 HZA HZB HSA HSB CO
    go_wp2
    go_ret
    exact ⟨rfl, B2.out.alloc z2 _⟩
  have HL := hide hlen
  have e2 : (sa.size : Int) + (sb.size : Int) ≤ 65516 := by omega
  obtain ⟨k, hk, hkz⟩ := which_six z
  obtain ⟨d, m, hdm, -, -⟩ := betw_skip k
  have hcell := six_cell (w2.alloc (.cells #[.int .i64 0, .int .i64 0] 25)) (w2.heap.size + 1) k hk (by simp)
  have k0 : (0 : Int) ≤ (k : Int) := by omega
  have k6 : (k : Int) < 6 := by omega
  obtain ⟨s3, hs3⟩ : ∃ s3, s3 = (⟨(betw k).toArray⟩ : ByteArray) := ⟨_, rfl⟩
  have hidx : ∀ W, (Instr.index 9 (.string s3) (.int .i64 0)).run Tryd.prog W = .ok (.int .u8 (d.toNat : Int)) W := fun W => run_idx s3 0 d (by rw [hs3]; show (betw k)[0]? = _; rw [hdm]; rfl) W
  have hs3n : 0 < s3.size := by rw [hs3, list_size, hdm]; simp
  have hs3i : (0 : Int) < (s3.size : Int) := by omega
  obtain ⟨sab, ad1, hsab⟩ : ∃ sab, Op.stringOp .add sa s3 = pure (.string sab) ∧ sab = (⟨(a ++ betw k).toArray⟩ : ByteArray) := by
    refine ⟨_, str_add sa s3 ?_, by rw [HSA.out, hs3, app_text]⟩
    have := betw_len k
    have := list_size (betw k)
    rw [hs3]; omega
  obtain ⟨sabb, ad2, hsabb⟩ : ∃ sabb, Op.stringOp .add sab sb = pure (.string sabb) ∧ sabb = (⟨((a ++ betw k) ++ b).toArray⟩ : ByteArray) := by
    refine ⟨_, str_add sab sb ?_, by rw [HSB.out, hsab, app_text]⟩
    have := betw_len k
    have := HZA.out
    have := list_size (a ++ betw k)
    rw [List.length_append] at this
    rw [hsab]; omega
  rw [← hs3] at hcell
  have HALL := hide hsabb
  have HD : Hid ((betw k).head? = some d) := by show _ = _; rw [hdm]; rfl
  clear hs3 hsab hsabb hdm hcnt hlen
  by_cases hd : d = 10
  · subst hd
    simp only [show ((10 : UInt8).toNat : Int) = 10 from rfl] at hidx
    go_wp2_with fail
    obtain ⟨ps, hps, hmap⟩ := toks_notes HT.out.1 HT.out.2 (by have := HN.out; omega) (by have := HZA.out; have := HZB.out; omega) k (.inl HD.out)
    have c3 := fun W h => tokens_any ((a ++ betw k) ++ b) W h
    unfold TksOut at c3
    rw [hps, ← HALL.out] at c3
    simp only [] at c3
    have B3 := hide ((B2.out.alloc z2 (.cells #[.int .i64 0, .int .i64 0] 25)).alloc (by rw [World.size_alloc]; omega) SixT)
    have HC3 := hide (notes_core (L := ((a ++ betw k) ++ b).length) (M := a.length) (N := b.length) hmap)
    have HPS : Hid ((ps.map (tvOf ((a ++ betw k) ++ b).length)).length ≤ 4096) := by have := (toks_lexes hps).2.1; show _ ≤ _; rw [List.length_map]; exact this
    refine (c3 _ (HG.out.below B3.out HG.out.lt)).mono ?_
    rintro e w4 ⟨⟨v4, rfl, ho4⟩, hb4⟩
    obtain ⟨a4, cap4, rfl⟩ := own_form ho4
    have D3 := ((Below.refl w2.heap.size w2).alloc (Nat.le_refl _) (.cells #[.int .i64 0, .int .i64 0] 25)).alloc (by rw [World.size_alloc]; omega) SixT
    have B4 := hide (D3.trans (hb4.mono D3.size))
    clear D3
    have HA4 := hide (Lst.of_tks ho4)
    have z4 := B4.out.size
    have HX1 := hide ((HA1.out.take (n1 - 1) (by omega)).below B4.out (Nat.le_refl _))
    have HX2 := hide (HA2.out.below B4.out (Nat.le_refl _))
    have BB := hide (B2.out.trans (B4.out.mono z2))
    have HPN := hide hmap
    clear c3 ho4 hb4 hps hmap hcell hidx ad1 ad2 m0 m1 hkz B3
    have i1 : (0 : Int) < (n1 : Int) := by have := HP.out; have := HN.out; omega
    generalize ps.length = N4 at *
    have z5 : w4.heap.size ≤ (w4.alloc (.cells #[.int .i64 0, .int .i64 0] 25)).heap.size := by rw [World.size_alloc]; omega
    have B5 := hide ((Below.refl w4.heap.size w4).alloc (Nat.le_refl _) (.cells #[.int .i64 0, .int .i64 0] 25))
    have B6 := hide (B5.out.alloc z5 (.cells #[] 41))
    have hst : ((w4.alloc (.cells #[.int .i64 0, .int .i64 0] 25)).alloc (.cells #[] 41)).ownsRow w4.heap.size 41 5 (.slice (some ⟨w4.heap.size + 1, 0, none⟩) 0 0) 0 [] := by
      have := World.ownsRow_made (e := 41) (size := 5) (w4.alloc (.cells #[.int .i64 0, .int .i64 0] 25)) #[] 0 z5 (by unfold maxLen; omega) rfl
      rw [World.size_alloc] at this
      exact this
    have HST := hide hst
    have HLt : Hid ((List.take (n1 - 1) (ts.map (tvOf a.length))).length = n1 - 1) := by show _ = _; rw [List.length_take, List.length_map, ← HN.out.1]; omega
    have HLu : Hid ((us.map (tvOf b.length)).length = n2) := by show _ = _; rw [List.length_map, ← HN.out.2]
    clear hst
    go_wp2_with (at_builtin; first
      | (refine wpList_append_toks (by rfl) _ _ (by rfl) w4.heap.size (w4.heap.size + 1) 0 0 (n1 - 1) [] (by rfl) HST.out (.slice (some ⟨g1, 0, none⟩) (n1 - 1) cap1) _ (by rfl) (HX1.out.below B6.out (Nat.le_refl _)) (by rw [HLt.out]; omega) (by omega) (by simp; omega) ?_; intro g7 cap7 w7 hown7 hgrow7; have O7 := hide hown7; have B7 := hide (B6.out.grown hgrow7 (by simp; omega) (fun r hr => (HST.out.lt r hr).1)); have z7 := B7.out.size; clear hown7 hgrow7)
      | (refine wpList_append_toks (by rfl) _ _ (by rfl) w4.heap.size g7 (n1 - 1) cap7 (n1 - 1 + n2) _ (by rfl) O7.out (.slice a2 n2 cap2) _ (by rfl) (HX2.out.below B7.out (Nat.le_refl _)) (by rw [HLu.out]) (by omega) (by omega) ?_; intro g8 cap8 w8 hown8 hgrow8; have O8 := hide hown8; have B8 := hide (B7.out.grown hgrow8 z7 (fun r hr => (O7.out.lt r hr).1)); clear hown8 hgrow8))
    have L8 : Hid (Lst w8 (.slice (some ⟨g8, 0, none⟩) (n1 - 1 + n2) cap8) (List.take (n1 - 1) (ts.map (tvOf a.length)) ++ us.map (tvOf b.length))) := by
      have h := O8.out
      rw [List.nil_append, ← tvsC_append] at h
      have e : n1 - 1 + n2 = (List.take (n1 - 1) (ts.map (tvOf a.length)) ++ us.map (tvOf b.length)).length := by rw [List.length_append, HLt.out, HLu.out]
      rw [e] at h ⊢
      exact Lst.of_owns h
    have L4 : Hid (Lst w8 (.slice a4 N4 cap4) (ps.map (tvOf ((a ++ betw k) ++ b).length))) := HA4.out.below B8.out (Nat.le_refl _)
    refine (same_any _ _ _ _ w8 L4.out L8.out (by have := HPS.out; omega)).mono ?_
    rw [← HN.out.1] at HC3
    rw [HC3.out, decide_eq_true rfl]
    rintro e w9 ⟨rfl, hb9⟩
    have B9 := hide (BB.out.trans ((B8.out.trans (hb9.mono B8.out.size)).mono BB.out.size))
    clear hb9 L8 L4 O8 O7 B8 B7 B6 B5 B4 HX1 HX2
    go_wp2
    go_ret
    exact ⟨rfl, B9.out⟩
  have hdn : ((d.toNat : Int) != 10) = true := by rw [bne_iff_ne]; exact fun e => hd (UInt8.toNat_inj.1 (by show d.toNat = 10; omega))
  have hdb : ((d.toNat : Int) == 10) = false := by rw [beq_eq_false_iff_ne]; exact fun e => hd (UInt8.toNat_inj.1 (by show d.toNat = 10; omega))
  go_wp2_with fail
  refine (CO.out _).mono ?_
  cases hop : openL a with
  | true =>
    rintro e w3 ⟨rfl, hb3⟩
    have D3 := ((Below.refl w2.heap.size w2).alloc (Nat.le_refl _) (.cells #[.int .i64 0, .int .i64 0] 25)).alloc (by rw [World.size_alloc]; omega) SixT
    have E3 := hide (B2.out.trans ((D3.trans (hb3.mono D3.size)).mono z2))
    clear hcell hidx hdn hdb m0 m1 hkz ad1 ad2 D3 hb3
    go_wp2
    go_ret
    exact ⟨rfl, E3.out⟩
  | false =>
    rintro e w3 ⟨rfl, hb3⟩
    have HO := hide hop
    have D3' := ((Below.refl w2.heap.size w2).alloc (Nat.le_refl _) (.cells #[.int .i64 0, .int .i64 0] 25)).alloc (by rw [World.size_alloc]; omega) SixT
    have D3 := hide (D3'.trans (hb3.mono D3'.size))
    clear D3' hb3 hop
    obtain ⟨ps, hps, hmap⟩ := toks_notes HT.out.1 HT.out.2 (by have := HN.out; omega) (by have := HZA.out; have := HZB.out; omega) k (.inr HO.out)
    have c3 := fun W h => tokens_any ((a ++ betw k) ++ b) W h
    unfold TksOut at c3
    rw [hps, ← HALL.out] at c3
    simp only [] at c3
    have B3 := hide (B2.out.trans (D3.out.mono z2))
    have HC3 := hide (notes_core (L := ((a ++ betw k) ++ b).length) (M := a.length) (N := b.length) hmap)
    have HPS : Hid ((ps.map (tvOf ((a ++ betw k) ++ b).length)).length ≤ 4096) := by have := (toks_lexes hps).2.1; show _ ≤ _; rw [List.length_map]; exact this
    clear hcell hidx hdn hdb m0 m1 hkz
    go_wp2_with fail
    refine (c3 _ (HG.out.below B3.out HG.out.lt)).mono ?_
    rintro e w4 ⟨⟨v4, rfl, ho4⟩, hb4⟩
    obtain ⟨a4, cap4, rfl⟩ := own_form ho4
    have B4 := hide (D3.out.trans (hb4.mono D3.out.size))
    have HA4 := hide (Lst.of_tks ho4)
    have z4 := B4.out.size
    have HX1 := hide ((HA1.out.take (n1 - 1) (by omega)).below B4.out (Nat.le_refl _))
    have HX2 := hide (HA2.out.below B4.out (Nat.le_refl _))
    have BB := hide (B2.out.trans (B4.out.mono z2))
    have HPN := hide hmap
    clear c3 ho4 hb4 hps hmap ad1 ad2 B3
    have i1 : (0 : Int) < (n1 : Int) := by have := HP.out; have := HN.out; omega
    generalize ps.length = N4 at *
    have z5 : w4.heap.size ≤ (w4.alloc (.cells #[.int .i64 0, .int .i64 0] 25)).heap.size := by rw [World.size_alloc]; omega
    have B5 := hide ((Below.refl w4.heap.size w4).alloc (Nat.le_refl _) (.cells #[.int .i64 0, .int .i64 0] 25))
    have B6 := hide (B5.out.alloc z5 (.cells #[] 41))
    have hst : ((w4.alloc (.cells #[.int .i64 0, .int .i64 0] 25)).alloc (.cells #[] 41)).ownsRow w4.heap.size 41 5 (.slice (some ⟨w4.heap.size + 1, 0, none⟩) 0 0) 0 [] := by
      have := World.ownsRow_made (e := 41) (size := 5) (w4.alloc (.cells #[.int .i64 0, .int .i64 0] 25)) #[] 0 z5 (by unfold maxLen; omega) rfl
      rw [World.size_alloc] at this
      exact this
    have HST := hide hst
    have HLt : Hid ((List.take (n1 - 1) (ts.map (tvOf a.length))).length = n1 - 1) := by show _ = _; rw [List.length_take, List.length_map, ← HN.out.1]; omega
    have HLu : Hid ((us.map (tvOf b.length)).length = n2) := by show _ = _; rw [List.length_map, ← HN.out.2]
    clear hst
    go_wp2_with (at_builtin; first
      | (refine wpList_append_toks (by rfl) _ _ (by rfl) w4.heap.size (w4.heap.size + 1) 0 0 (n1 - 1) [] (by rfl) HST.out (.slice (some ⟨g1, 0, none⟩) (n1 - 1) cap1) _ (by rfl) (HX1.out.below B6.out (Nat.le_refl _)) (by rw [HLt.out]; omega) (by omega) (by simp; omega) ?_; intro g7 cap7 w7 hown7 hgrow7; have O7 := hide hown7; have B7 := hide (B6.out.grown hgrow7 (by simp; omega) (fun r hr => (HST.out.lt r hr).1)); have z7 := B7.out.size; clear hown7 hgrow7)
      | (refine wpList_append_toks (by rfl) _ _ (by rfl) w4.heap.size g7 (n1 - 1) cap7 (n1 - 1 + n2) _ (by rfl) O7.out (.slice a2 n2 cap2) _ (by rfl) (HX2.out.below B7.out (Nat.le_refl _)) (by rw [HLu.out]) (by omega) (by omega) ?_; intro g8 cap8 w8 hown8 hgrow8; have O8 := hide hown8; have B8 := hide (B7.out.grown hgrow8 z7 (fun r hr => (O7.out.lt r hr).1)); clear hown8 hgrow8))
    have L8 : Hid (Lst w8 (.slice (some ⟨g8, 0, none⟩) (n1 - 1 + n2) cap8) (List.take (n1 - 1) (ts.map (tvOf a.length)) ++ us.map (tvOf b.length))) := by
      have h := O8.out
      rw [List.nil_append, ← tvsC_append] at h
      have e : n1 - 1 + n2 = (List.take (n1 - 1) (ts.map (tvOf a.length)) ++ us.map (tvOf b.length)).length := by rw [List.length_append, HLt.out, HLu.out]
      rw [e] at h ⊢
      exact Lst.of_owns h
    have L4 : Hid (Lst w8 (.slice a4 N4 cap4) (ps.map (tvOf ((a ++ betw k) ++ b).length))) := HA4.out.below B8.out (Nat.le_refl _)
    refine (same_any _ _ _ _ w8 L4.out L8.out (by have := HPS.out; omega)).mono ?_
    rw [← HN.out.1] at HC3
    rw [HC3.out, decide_eq_true rfl]
    rintro e w9 ⟨rfl, hb9⟩
    have B9 := hide (BB.out.trans ((B8.out.trans (hb9.mono B8.out.size)).mono BB.out.size))
    clear hb9 L8 L4 O8 O7 B8 B7 B6 B5 B4 HX1 HX2
    go_wp2
    go_ret
    exact ⟨rfl, B9.out⟩
theorem notes_row (s t : ByteArray) (z : Int) (hs : s.size ≤ 140737488351232) (ht : t.size ≤ 140737488351232) (_ : (Lit.int .i64 z).wf = true) (w : World) (hg : Glo w) : Calls Tryd.prog 6 #[.string s, .string t, .int .i64 z] w fun e w' => e = .returned (.bool true) ∧ Below w.heap.size w w' := by
  rw [to_list s, to_list t]
  exact notes_any s.data.toList t.data.toList (by rw [text_len]; exact hs) (by rw [text_len]; exact ht) z w hg
end Go.Proofs.YtfcnbiikjopajaaDoor
