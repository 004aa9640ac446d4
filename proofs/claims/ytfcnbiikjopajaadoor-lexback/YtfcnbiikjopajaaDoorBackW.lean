/- The walk of the law LexBack. -/
import Derived.Test.YtfcnbiikjopajaaDoorShowW
import Derived.Test.YtfcnbiikjopajaaDoorBackP
import Derived.Test.YtfcnbiikjopajaaDoorSameW
import Derived.Test.YtfcnbiikjopajaaDoorWorksW
namespace Go.Proofs.YtfcnbiikjopajaaDoor
open Go.RowKit
set_option maxRecDepth 100000 in
set_option maxHeartbeats 6400000 in
theorem back_any (sl : Bs) (v : Value) (l : List Tv) (w : World) (hL : Lst w v l) (hcap : ∀ a n cap, v = .slice a n cap → n ≤ cap) (ho : OkV l) (hg : Glo w) (h3 : Lay3 w) :
    Calls Tryd.prog 5 #[.string ⟨sl.toArray⟩, v] w fun e w' => e = .returned (.bool true) ∧ Below w.heap.size w w' := by
  have HG := hide hg
  have H3 := hide h3
  have HL := hide hL
  have hv : ∃ a cap, v = .slice a l.length cap := by
    obtain ⟨a, b, off, cap, rfl, _⟩ := hL
    exact ⟨a, cap, rfl⟩
  obtain ⟨a, cap, rfl⟩ := hv
  have hlen : l.length ≤ 4398046510976 := by have := ho.1; omega
  have HLEN := hide hlen
  have c0 := works_any w hg
  have c1 := fun W h1 h2 h3 => show_any (.slice a l.length cap) l W h1 hcap ho h2 h3
  have c2 := fun W h => tokens_any sl W h
  generalize (⟨sl.toArray⟩ : ByteArray) = s at *
  clear hg h3 ho hL hcap hlen
  go_enter Tryd.func5, Tryd.ntmps5
  go_wp2_with fail
  refine c0.mono ?_
  rintro e w0 ⟨rfl, hb0⟩
  have B0 := hide hb0
  have L0 := hide (HL.out.below hb0 (Nat.le_refl _))
  clear c0 hb0
  go_wp2_with fail
  refine (c1 _ L0.out (HG.out.below B0.out HG.out.lt) (H3.out.below B0.out)).mono ?_
  rintro e w1 ⟨⟨u1, rfl, h1⟩, hb1⟩
  have B1 := hide (B0.out.trans (hb1.mono B0.out.size))
  have L1 := hide (L0.out.below hb1 (Nat.le_refl _))
  clear c1 hb1 L0 B0 HL
  have h1' : (∃ c : Int, c ≠ 0 ∧ u1 = .tuple #[.string ⟨#[]⟩, .int .i64 c]) ∨ (Shows (l.map tkV) ∧ (shownL (l.map tkV)).length ≤ 65536 ∧ u1 = .tuple #[.string ⟨(shownL (l.map tkV)).toArray⟩, .int .i64 0]) := by
    rcases h1 with ⟨_, h⟩ | ⟨_, _, h⟩ | h
    · exact .inl ⟨50, by decide, h⟩
    · exact .inl ⟨2, by decide, h⟩
    · exact .inr h
  clear h1
  rcases h1' with ⟨c, hc, rfl⟩ | ⟨hS, hl6, rfl⟩
  · have BK := B1
    clear B1 L1
    go_wp2_with fail
    refine (c2 _ (HG.out.below BK.out HG.out.lt)).mono ?_
    rintro e w5 ⟨h5, hb5⟩
    have b5 := BK.out.trans (hb5.mono BK.out.size)
    unfold TksOut at h5
    cases ht : toks sl with
    | error x =>
      obtain ⟨n, c⟩ := x
      rw [ht] at h5
      simp only [] at h5
      subst h5
      have hc0 : c ≠ 0 := by rcases toks_code ht with h | h <;> rw [h] <;> decide
      have B5 := hide (b5.alloc b5.size (.cells #[.int .i64 ((sl.length - n : Nat) : Int), .int .i64 c] 25))
      clear ht hb5 b5 c2
      generalize ((sl.length - n : Nat) : Int) = p at *
      go_wp2
      go_ret
      exact ⟨rfl, B5.out⟩
    | ok ps =>
      rw [ht] at h5
      simp only [] at h5
      obtain ⟨v5, rfl, ho5⟩ := h5
      obtain ⟨a5, cap5, rfl, hcp⟩ := own_form2 ho5
      have l5 := Lst.of_tks ho5
      have ba := (Below.refl w5.heap.size w5).alloc (Nat.le_refl _) (.cells #[.int .i64 0, .int .i64 0] 25)
      have L5 := hide (l5.below ba (Nat.le_refl _))
      have B5 := hide (b5.alloc b5.size (.cells #[.int .i64 0, .int .i64 0] 25))
      have OK := hide (read_ok ht sl.length)
      have HSh := hide (read_shows ht)
      have HN5 := hide (toks_lexes ht).2.1
      have HLn : Hid ((ps.map (tvOf sl.length)).length = ps.length) := List.length_map _
      have HTV := hide (tkV_tvOf sl.length ps)
      have c5 := show_any (.slice a5 ps.length cap5) (ps.map (tvOf sl.length)) (w5.alloc (.cells #[.int .i64 0, .int .i64 0] 25)) L5.out (fun a n cap h => by injection h with _ h1 h2; omega) OK.out (HG.out.below B5.out HG.out.lt) (H3.out.below B5.out)
      rw [HTV.out] at c5
      clear ht hb5 b5 c2 ho5 l5 ba OK hcp
      obtain ⟨N5, hN5⟩ : ∃ N5, N5 = ps.length := ⟨_, rfl⟩
      have HNN := hide hN5
      rw [← hN5] at c5 L5 HLn ⊢
      clear hN5
      go_wp2_with fail
      refine c5.mono ?_
      rintro e w6 ⟨⟨u6, rfl, h6⟩, hb6⟩
      have B6 := hide (B5.out.trans (hb6.mono B5.out.size))
      have L6 := hide (L5.out.below hb6 (Nat.le_refl _))
      clear c5 hb6 L5 B5
      rcases h6 with ⟨hn, _⟩ | ⟨_, _, rfl⟩ | ⟨_, hl6, rfl⟩
      · exact absurd HSh.out hn
      · clear HSh L6 HLn HTV
        go_wp2
        go_ret
        exact ⟨rfl, B6.out⟩
      · obtain ⟨hs1, _⟩ := shown_toks HSh.out hl6
        obtain ⟨qs, ht7, he7⟩ := hs1 (by rw [List.length_map]; exact HN5.out)
        have c7 := fun W h => tokens_any (joinB ((ps.map (·.1)).dropLast.map shownK)) W h
        have HC7 : Hid (decide ((ps.map (tvOf sl.length)).map core = (qs.map (tvOf (shownL (ps.map (·.1))).length)).map core) = true) := decide_eq_true (core_tv (ps := qs) (l := ps.map (tvOf sl.length)) (by rw [he7, HTV.out])).symm
        clear hs1
        generalize (⟨(joinB ((ps.map (·.1)).dropLast.map shownK)).toArray⟩ : ByteArray) = s7 at *
        go_wp2_with fail
        refine (c7 _ (HG.out.below B6.out HG.out.lt)).mono ?_
        rintro e w7 ⟨h7, hb7⟩
        unfold TksOut at h7
        rw [show toks (joinB ((ps.map (·.1)).dropLast.map shownK)) = .ok qs from ht7] at h7
        simp only [] at h7
        obtain ⟨v7, rfl, ho7⟩ := h7
        obtain ⟨a7, cap7, rfl, _⟩ := own_form2 ho7
        have b7 := B6.out.trans (hb7.mono B6.out.size)
        have ba := (Below.refl w7.heap.size w7).alloc (Nat.le_refl _) (.cells #[.int .i64 0, .int .i64 0] 25)
        have L7 := hide ((Lst.of_tks ho7).below ba (Nat.le_refl _))
        have L8 := hide ((L6.out.below hb7 (Nat.le_refl _)).below ba (Nat.le_refl _))
        have B7 := hide (b7.alloc b7.size (.cells #[.int .i64 0, .int .i64 0] 25))
        have c8 := same_any (.slice a5 N5 cap5) (.slice a7 qs.length cap7) _ _ _ L8.out L7.out (by rw [HLn.out, HNN.out]; have := HN5.out; omega)
        have HCC : Hid (decide ((ps.map (tvOf sl.length)).map core = (qs.map (tvOf (joinB ((ps.map (·.1)).dropLast.map shownK)).length)).map core) = true) := HC7.out
        rw [HCC.out] at c8
        clear hb7 b7 ho7 c7 ba ht7 he7 L6 L7 L8 HC7 HCC
        generalize qs.length = N7 at *
        go_wp2_with fail
        refine c8.mono ?_
        rintro e w8 ⟨rfl, hb8⟩
        have B8 := hide (B7.out.trans (hb8.mono B7.out.size))
        clear c8 hb8
        go_wp2
        go_ret
        exact ⟨rfl, B8.out⟩
  · obtain ⟨hs1, hs2⟩ := shown_toks hS hl6
    rw [List.length_map] at hs1 hs2
    have HS1 := hide hs1
    have HS2 := hide hs2
    clear hs1 hs2
    have c3 := fun W h => tokens_any (shownL (l.map tkV)) W h
    generalize (⟨(shownL (l.map tkV)).toArray⟩ : ByteArray) = s3 at *
    clear hS hl6
    go_wp2_with fail
    refine (c3 _ (HG.out.below B1.out HG.out.lt)).mono ?_
    rintro e w3 ⟨h3, hb3⟩
    unfold TksOut at h3
    have b3 := B1.out.trans (hb3.mono B1.out.size)
    have L3 := hide (L1.out.below hb3 (Nat.le_refl _))
    clear c3 hb3 L1
    by_cases h4 : 4096 < l.length
    · obtain ⟨n, he⟩ := HS2.out h4
      rw [he] at h3
      simp only [] at h3
      subst h3
      have B3 := hide (b3.alloc b3.size (.cells #[.int .i64 (((shownL (l.map tkV)).length - n : Nat) : Int), .int .i64 2] 25))
      have i4 : (4096 : Int) < (l.length : Int) := by omega
      clear HS1 HS2 he b3 h4 c2 L3 B1
      generalize ((((shownL (l.map tkV)).length - n : Nat)) : Int) = p at *
      generalize l.length = N at *
      go_wp2
      go_ret
      exact ⟨rfl, B3.out⟩
    · obtain ⟨ps, he, hm⟩ := HS1.out (by omega)
      rw [he] at h3
      simp only [] at h3
      obtain ⟨v3, rfl, ho3⟩ := h3
      obtain ⟨a3, cap3, rfl, _⟩ := own_form2 ho3
      have ba := (Below.refl w3.heap.size w3).alloc (Nat.le_refl _) (.cells #[.int .i64 0, .int .i64 0] 25)
      have M3 := hide ((Lst.of_tks ho3).below ba (Nat.le_refl _))
      have L4 := hide (L3.out.below ba (Nat.le_refl _))
      have B3 := hide (b3.alloc b3.size (.cells #[.int .i64 0, .int .i64 0] 25))
      have hpn : ps.length = l.length := by
        have := congrArg List.length hm
        rw [List.length_map, List.length_map] at this
        exact this
      have c4 := same_any (.slice a3 ps.length cap3) (.slice a l.length cap) _ _ _ M3.out L4.out (by rw [List.length_map]; omega)
      rw [decide_eq_true (core_tv hm)] at c4
      clear HS1 HS2 he b3 h4 ho3 ba M3 L4 L3 B1 hm hpn
      generalize l.length = N at *
      generalize ps.length = N2 at *
      go_wp2_with fail
      refine c4.mono ?_
      rintro e w4 ⟨rfl, hb4⟩
      have BK := hide (B3.out.trans (hb4.mono B3.out.size))
      clear c4 hb4 B3
      go_wp2_with fail
      refine (c2 _ (HG.out.below BK.out HG.out.lt)).mono ?_
      rintro e w5 ⟨h5, hb5⟩
      have b5 := BK.out.trans (hb5.mono BK.out.size)
      unfold TksOut at h5
      cases ht : toks sl with
      | error x =>
        obtain ⟨n, c⟩ := x
        rw [ht] at h5
        simp only [] at h5
        subst h5
        have hc0 : c ≠ 0 := by rcases toks_code ht with h | h <;> rw [h] <;> decide
        have B5 := hide (b5.alloc b5.size (.cells #[.int .i64 ((sl.length - n : Nat) : Int), .int .i64 c] 25))
        clear ht hb5 b5 c2
        generalize ((sl.length - n : Nat) : Int) = p at *
        go_wp2
        go_ret
        exact ⟨rfl, B5.out⟩
      | ok ps =>
        rw [ht] at h5
        simp only [] at h5
        obtain ⟨v5, rfl, ho5⟩ := h5
        obtain ⟨a5, cap5, rfl, hcp⟩ := own_form2 ho5
        have l5 := Lst.of_tks ho5
        have ba := (Below.refl w5.heap.size w5).alloc (Nat.le_refl _) (.cells #[.int .i64 0, .int .i64 0] 25)
        have L5 := hide (l5.below ba (Nat.le_refl _))
        have B5 := hide (b5.alloc b5.size (.cells #[.int .i64 0, .int .i64 0] 25))
        have OK := hide (read_ok ht sl.length)
        have HSh := hide (read_shows ht)
        have HN5 := hide (toks_lexes ht).2.1
        have HLn : Hid ((ps.map (tvOf sl.length)).length = ps.length) := List.length_map _
        have HTV := hide (tkV_tvOf sl.length ps)
        have c5 := show_any (.slice a5 ps.length cap5) (ps.map (tvOf sl.length)) (w5.alloc (.cells #[.int .i64 0, .int .i64 0] 25)) L5.out (fun a n cap h => by injection h with _ h1 h2; omega) OK.out (HG.out.below B5.out HG.out.lt) (H3.out.below B5.out)
        rw [HTV.out] at c5
        clear ht hb5 b5 c2 ho5 l5 ba OK hcp
        obtain ⟨N5, hN5⟩ : ∃ N5, N5 = ps.length := ⟨_, rfl⟩
        have HNN := hide hN5
        rw [← hN5] at c5 L5 HLn ⊢
        clear hN5
        go_wp2_with fail
        refine c5.mono ?_
        rintro e w6 ⟨⟨u6, rfl, h6⟩, hb6⟩
        have B6 := hide (B5.out.trans (hb6.mono B5.out.size))
        have L6 := hide (L5.out.below hb6 (Nat.le_refl _))
        clear c5 hb6 L5 B5
        rcases h6 with ⟨hn, _⟩ | ⟨_, _, rfl⟩ | ⟨_, hl6, rfl⟩
        · exact absurd HSh.out hn
        · clear HSh L6 HLn HTV
          go_wp2
          go_ret
          exact ⟨rfl, B6.out⟩
        · obtain ⟨hs1, _⟩ := shown_toks HSh.out hl6
          obtain ⟨qs, ht7, he7⟩ := hs1 (by rw [List.length_map]; exact HN5.out)
          have c7 := fun W h => tokens_any (joinB ((ps.map (·.1)).dropLast.map shownK)) W h
          have HC7 : Hid (decide ((ps.map (tvOf sl.length)).map core = (qs.map (tvOf (shownL (ps.map (·.1))).length)).map core) = true) := decide_eq_true (core_tv (ps := qs) (l := ps.map (tvOf sl.length)) (by rw [he7, HTV.out])).symm
          clear hs1
          generalize (⟨(joinB ((ps.map (·.1)).dropLast.map shownK)).toArray⟩ : ByteArray) = s7 at *
          go_wp2_with fail
          refine (c7 _ (HG.out.below B6.out HG.out.lt)).mono ?_
          rintro e w7 ⟨h7, hb7⟩
          unfold TksOut at h7
          rw [show toks (joinB ((ps.map (·.1)).dropLast.map shownK)) = .ok qs from ht7] at h7
          simp only [] at h7
          obtain ⟨v7, rfl, ho7⟩ := h7
          obtain ⟨a7, cap7, rfl, _⟩ := own_form2 ho7
          have b7 := B6.out.trans (hb7.mono B6.out.size)
          have ba := (Below.refl w7.heap.size w7).alloc (Nat.le_refl _) (.cells #[.int .i64 0, .int .i64 0] 25)
          have L7 := hide ((Lst.of_tks ho7).below ba (Nat.le_refl _))
          have L8 := hide ((L6.out.below hb7 (Nat.le_refl _)).below ba (Nat.le_refl _))
          have B7 := hide (b7.alloc b7.size (.cells #[.int .i64 0, .int .i64 0] 25))
          have c8 := same_any (.slice a5 N5 cap5) (.slice a7 qs.length cap7) _ _ _ L8.out L7.out (by rw [HLn.out, HNN.out]; have := HN5.out; omega)
          have HCC : Hid (decide ((ps.map (tvOf sl.length)).map core = (qs.map (tvOf (joinB ((ps.map (·.1)).dropLast.map shownK)).length)).map core) = true) := HC7.out
          rw [HCC.out] at c8
          clear hb7 b7 ho7 c7 ba ht7 he7 L6 L7 L8 HC7 HCC
          generalize qs.length = N7 at *
          go_wp2_with fail
          refine c8.mono ?_
          rintro e w8 ⟨rfl, hb8⟩
          have B8 := hide (B7.out.trans (hb8.mono B7.out.size))
          clear c8 hb8
          go_wp2
          go_ret
          exact ⟨rfl, B8.out⟩
theorem back_row {u : World} (s : ByteArray) (v : Value) (l : List Tv) (_ : s.size ≤ 140737488351232) (hL : Lst u v l) (hcap : ∀ a n cap, v = .slice a n cap → n ≤ cap) (ho : OkV l) (w : World) (hg : Glo w ∧ Lay3 w) (e : u = w := by rfl) :
    Calls Tryd.prog 5 #[.string s, v] w fun e w' => e = .returned (.bool true) ∧ Below w.heap.size w w' := by
  subst e
  have h := back_any s.data.toList v l u hL hcap ho hg.1 hg.2
  rw [text_back] at h
  exact h
end Go.Proofs.YtfcnbiikjopajaaDoor
