/- BlockTwice's walk. -/
import Derived.Test.YthifgfhgkdjkfabDoorMg16
import Derived.Test.YthifgfhgkdjkfabDoorMg14
namespace Go.Proofs.YthifgfhgkdjkfabDoor
open Go.RowKit
theorem CLst.on {w w' : World} {v : Value} {cl : List (Int × List Int)} (h : CLst w v cl) (hb : Below w.heap.size w w') : CLst w' v cl := by
  obtain ⟨a, b, off, cap, rfl, hA, hC⟩ := h
  refine ⟨a, b, off, cap, rfl, fun h0 => ⟨Nat.lt_of_lt_of_le (hA h0).1 hb.size, (hA h0).2⟩, fun i q hq => ?_⟩
  obtain ⟨h1, sv, h2, h3⟩ := hC i q hq
  have hlt : b < w.heap.size := (hA (by have := (List.getElem?_eq_some_iff.1 hq).1; omega)).1
  exact ⟨(hb.cell (p := ⟨b, off + i * 2, none⟩) hlt).trans h1, sv, (hb.cell (p := ⟨b, off + i * 2 + 1, none⟩) hlt).trans h2, h3.on hb⟩
theorem CLst.front {w : World} {b off n cap m cap' : Nat} {cl : List (Int × List Int)} (h : CLst w (.slice (some ⟨b, off, none⟩) n cap) cl) (hm : m ≤ cl.length) : CLst w (.slice (some ⟨b, off, none⟩) m cap') (cl.take m) := by
  obtain ⟨a, b', off', c', hv, hA, hC⟩ := h
  have hl : (cl.take m).length = m := by rw [List.length_take]; omega
  by_cases h0 : 0 < cl.length
  · obtain ⟨hb, rfl⟩ := hA h0
    injection hv with h1 _ _
    have h1' : (⟨b, off, none⟩ : Addr) = ⟨b', off', none⟩ := Option.some.inj h1
    injection h1' with h2 h3 _
    subst h2 h3
    refine ⟨_, b, off, cap', by rw [hl], fun _ => ⟨hb, rfl⟩, fun i q hq => hC i q ?_⟩
    rw [List.getElem?_take] at hq
    split at hq
    · exact hq
    · cases hq
  · have hn : cl = [] := List.eq_nil_of_length_eq_zero (by omega)
    subst hn
    have : m = 0 := by simpa using hm
    subst this
    exact ⟨_, b, off, cap', rfl, fun h => absurd h (by simp), fun i q hq => by simp at hq⟩
theorem CLst.back {w : World} {b off n cap m cap' : Nat} {cl : List (Int × List Int)} (h : CLst w (.slice (some ⟨b, off, none⟩) n cap) cl) (h0 : 0 < cl.length) (_ : m ≤ cl.length) : CLst w (.slice (some ⟨b, off + m * 2, none⟩) (cl.length - m) cap') (cl.drop m) := by
  obtain ⟨a, b', off', c', hv, hA, hC⟩ := h
  obtain ⟨hb, rfl⟩ := hA h0
  injection hv with h1 _ _
  have h1' : (⟨b, off, none⟩ : Addr) = ⟨b', off', none⟩ := Option.some.inj h1
  injection h1' with h2 h3 _
  subst h2 h3
  refine ⟨_, b, off + m * 2, cap', by rw [List.length_drop], fun _ => ⟨hb, rfl⟩, fun i q hq => ?_⟩
  rw [List.getElem?_drop] at hq
  have := hC (m + i) q hq
  rw [show off + m * 2 + i * 2 = off + (m + i) * 2 by omega]
  exact this
theorem CLst.nil (w : World) (a : Option Addr) (c : Nat) : CLst w (.slice a 0 c) [] := ⟨a, 0, 0, c, rfl, fun h => absurd h (Nat.lt_irrefl 0), fun i q hq => by cases hq⟩
set_option maxRecDepth 100000 in
set_option maxHeartbeats 3200000 in
theorem twice_any (k : Int) (cv : Value) (c : List Int) (v : Value) (cl : List (Int × List Int)) (w : World) (hC : ILst w cv c) (hV : CLst w v cl) (hcap : ∀ a n c, v = .slice a n c → n ≤ c) (hg : Glo w) :
    Calls Tryd.prog 3 #[.int .i64 k, cv, v] w fun e w' => e = .returned (.bool true) ∧ Below w.heap.size w w' := by
  have HG : Hid (∀ W, Below w.heap.size w W → Glo W) := fun W h => hg.below h hg.lt
  have mw := hide (works_any w hg)
  have m5 : Hid (∀ W cv' c' v' cl', Below w.heap.size w W → ILst W cv' c' → CLst W v' cl' → cl'.length ≤ 200 → Calls Tryd.prog 5 #[.int .i64 k, cv', v'] W fun e w' => RunQ (runA k c' cl') (fldK k).length e w' ∧ Below W.heap.size W w') := fun W cv' c' v' cl' hb h h2 h3 => run_any k cv' c' v' cl' W h h2 (by omega) (HG.out W hb)
  have h6 : (fldK k).length ≤ 6 := fldK_len k
  have HLn : Hid (∀ c' cl', (runA k c' cl').2 = 0 → (runA k c' cl').1.length = (fldK k).length) := fun c' cl' => runA_len
  have HNo : Hid (∀ a b, (runA k c a).2 ≠ 0 → runA k c (a ++ b) = ([], (runA k c a).2)) := fun a b => twice_no
  have HYes : Hid (∀ a b, (runA k c a).2 = 0 → runA k (runA k c a).1 b = runA k c (a ++ b)) := fun a b => twice_yes
  have HC := hide hC
  have HV := hide hV
  obtain ⟨va, vb, voff, vcap, rfl, hvA, -⟩ := hV
  have hnc : cl.length ≤ vcap := hcap _ _ _ rfl
  obtain ⟨ca, cb, coff, ccap, rfl, -, -⟩ := hC
  obtain ⟨cn, hcn⟩ : ∃ n, n = c.length := ⟨_, rfl⟩
  rw [← hcn] at HC ⊢
  obtain ⟨n, hn⟩ : ∃ n, n = cl.length := ⟨_, rfl⟩
  rw [← hn] at HV hnc ⊢
  obtain ⟨m, hm⟩ : ∃ m, m = n / 2 := ⟨_, rfl⟩
  have hd : Int.tdiv (n : Int) 2 = (m : Int) := by rw [Int.tdiv_eq_ediv_of_nonneg (by omega)]; omega
  have n0 : (0 : Int) ≤ (n : Int) := by omega
  have m0 : (0 : Int) ≤ (m : Int) := by omega
  have mn : (m : Int) ≤ (n : Int) := by omega
  have hmn : m ≤ n := by omega
  have mc : (m : Int) ≤ (vcap : Int) := by omega
  have HCN := hide hcn
  have HN := hide hn
  have HVA := hide hvA
  clear hcap hvA hcn hn hg
  go_enter Tryd.func3, Tryd.ntmps3
  go_wp2_with fail
  refine mw.out.mono ?_
  rintro e w1 ⟨rfl, b1⟩
  have B1 := hide b1
  clear b1 mw
  by_cases hbig : 200 < n
  · have j1 : (200 : Int) < (n : Int) := by omega
    go_wp2
    go_ret
    exact ⟨rfl, B1.out⟩
  · have j1 : ¬ (200 : Int) < (n : Int) := by omega
    have V1 := hide (HV.out.on B1.out)
    have I1 := hide (HC.out.on B1.out)
    have n2 : (n : Int) ≤ 200 := by omega
    have hwm : IntKind.i64.wrap (m : Int) = (m : Int) := by rw [IntKind.wrap_i64]; omega
    have M1 := hide (m5.out w1 _ _ _ _ B1.out I1.out V1.out (by rw [← HN.out]; omega))
    have hm2 : 2 * m ≤ n := by omega
    clear hm
    have HAA : Hid (runA k c cl = runA k c (cl.take m ++ cl.drop m)) := by show _ = _; rw [List.take_append_drop]
    have HNo2 : Hid ((runA k c (cl.take m)).2 ≠ 0 → runA k c cl = ([], (runA k c (cl.take m)).2)) := fun h => by rw [HAA.out]; exact HNo.out _ _ h
    have HYes2 : Hid ((runA k c (cl.take m)).2 = 0 → runA k (runA k c (cl.take m)).1 (cl.drop m) = runA k c cl) := fun h => by rw [HAA.out]; exact HYes.out _ _ h
    have m5a : Hid (∀ W, Below w.heap.size w W → ILst W (.slice ca cn ccap) c → ∀ v', CLst W v' (cl.take m) → Calls Tryd.prog 5 #[.int .i64 k, .slice ca cn ccap, v'] W fun e w' => RunQ (runA k c (cl.take m)) (fldK k).length e w' ∧ Below W.heap.size W w') := fun W hb h v' h2 => m5.out W _ _ _ _ hb h h2 (by rw [List.length_take, ← HN.out]; omega)
    have m5b : Hid (∀ W cv' c' v', Below w.heap.size w W → ILst W cv' c' → CLst W v' (cl.drop m) → Calls Tryd.prog 5 #[.int .i64 k, cv', v'] W fun e w' => RunQ (runA k c' (cl.drop m)) (fldK k).length e w' ∧ Below W.heap.size W w') := fun W cv' c' v' hb h h2 => m5.out W _ _ _ _ hb h h2 (by rw [List.length_drop, ← HN.out]; omega)
    have HLA : Hid ((runA k c cl).2 = 0 → (runA k c cl).1.length = (fldK k).length) := HLn.out _ _
    have HLF : Hid ((runA k c (cl.take m)).2 = 0 → (runA k c (cl.take m)).1.length = (fldK k).length) := HLn.out _ _
    have vfront : Hid (∀ W, Below w.heap.size w W → CLst W (.slice va m vcap) (cl.take m)) := fun W hb => by
      by_cases h0 : 0 < cl.length
      · obtain ⟨-, rfl⟩ := HVA.out h0
        exact (HV.out.on hb).front (by rw [← HN.out]; omega)
      · have hnil : cl = [] := List.eq_nil_of_length_eq_zero (by omega)
        have hm0 : m = 0 := by have := HN.out; rw [hnil] at this; simp at this; omega
        rw [hnil, hm0]
        exact CLst.nil W va vcap
    clear HAA HNo HYes HLn m5
    generalize runA k c cl = A at *
    generalize (fldK k).length = N at *
    obtain ⟨A1, A2⟩ := A
    go_wp2_with fail
    refine M1.out.mono ?_
    rintro e w2 ⟨hq, b2⟩
    have B2 := hide (blw B1.out b2)
    have I2 := hide (I1.out.on b2)
    clear b2 M1 B1 I1 V1
    rcases hq with ⟨h0, g, cap, rfl, hrw⟩ | ⟨h0, h1, rfl⟩
    · have h0' : A2 = 0 := h0
      subst h0'
      have hNl : N = A1.length := (HLA.out rfl).symm
      have IA := hide (hrw.ilst N cap hNl)
      have HNN := hide hNl
      have hF : Hid ((runA k c (cl.take m)).2 = 0) := by
        by_cases h : (runA k c (cl.take m)).2 = 0
        · exact h
        · exact absurd (congrArg Prod.snd (HNo2.out h)).symm h
      clear hrw h0 hNl HLA HNo2
      have m5c : Hid (∀ W cv' v', Below w.heap.size w W → ILst W cv' (runA k c (cl.take m)).1 → CLst W v' (cl.drop m) → Calls Tryd.prog 5 #[.int .i64 k, cv', v'] W fun e w' => RunQ (A1, 0) N e w' ∧ Below W.heap.size W w') := fun W cv' v' hb h h2 => by
        have h3 := m5b.out W cv' _ v' hb h h2
        rw [HYes2.out hF.out] at h3
        exact h3
      go_wp2_with fail
      refine (m5a.out _ B2.out I2.out _ (vfront.out _ B2.out)).mono ?_
      rintro e w3 ⟨hq, b3⟩
      have B3 := hide (blw B2.out b3)
      have IA3 := hide (IA.out.on b3)
      clear b3 I2 IA B2 m5a m5b vfront HYes2
      rcases hq with ⟨-, g2, cap2, rfl, hrw2⟩ | ⟨hx, -, -⟩
      · have IF := hide (hrw2.ilst N cap2 (HLF.out hF.out).symm)
        clear hrw2 HLF
        generalize (runA k c (cl.take m)).1 = F1 at *
        clear hF
        by_cases hn0 : 0 < n
        · obtain ⟨-, rfl⟩ := HVA.out (by rw [← HN.out]; exact hn0)
          have hmc : ¬ vcap = m := by omega
          have hmc2 : ¬ (vcap : Int) = (m : Int) := by omega
          have VB : Hid (∀ cap', CLst w3 (.slice (some ⟨vb, voff + m * 2, none⟩) (n - m) cap') (cl.drop m)) := fun cap' => by
            have h := (HV.out.on B3.out).back (m := m) (cap' := cap') (by rw [← HN.out]; exact hn0) (by rw [← HN.out]; exact hmn)
            rw [← HN.out] at h
            exact h
          go_wp2_with fail
          refine (m5c.out _ _ _ B3.out IF.out (VB.out _)).mono ?_
          rintro e w4 ⟨hq, b4⟩
          have B4 := hide (blw B3.out b4)
          have IA4 := hide (IA3.out.on b4)
          clear b4 m5c B3 IF IA3
          rcases hq with ⟨-, g3, cap3, rfl, hrw3⟩ | ⟨hx, -, -⟩
          · have IR := hide (hrw3.ilst N cap3 HNN.out)
            have M4 := hide (sameNums_one _ _ A1 w4 IA4.out IR.out (by rw [← HNN.out]; omega))
            clear hrw3 IA4 IR HNN
            go_wp2_with fail
            refine M4.out.mono ?_
            rintro e w5 ⟨rfl, b5⟩
            have B5 := hide (blw B4.out b5)
            clear b5 M4 B4
            go_wp2
            go_ret
            exact ⟨rfl, B5.out⟩
          · exact absurd rfl hx
        · obtain rfl : n = 0 := by omega
          obtain rfl : m = 0 := by omega
          have hnil : cl.drop 0 = [] := List.eq_nil_of_length_eq_zero (by rw [List.length_drop, ← HN.out])
          go_wp2_with fail
          refine (m5c.out _ _ _ B3.out IF.out (by rw [hnil]; exact CLst.nil w3 va vcap)).mono ?_
          rintro e w4 ⟨hq, b4⟩
          have B4 := hide (blw B3.out b4)
          have IA4 := hide (IA3.out.on b4)
          clear b4 m5c B3 IF IA3
          rcases hq with ⟨-, g3, cap3, rfl, hrw3⟩ | ⟨hx, -, -⟩
          · have IR := hide (hrw3.ilst N cap3 HNN.out)
            have M4 := hide (sameNums_one _ _ A1 w4 IA4.out IR.out (by rw [← HNN.out]; omega))
            clear hrw3 IA4 IR HNN
            go_wp2_with fail
            refine M4.out.mono ?_
            rintro e w5 ⟨rfl, b5⟩
            have B5 := hide (blw B4.out b5)
            clear b5 M4 B4
            go_wp2
            go_ret
            exact ⟨rfl, B5.out⟩
          · exact absurd rfl hx
      · exact absurd hF.out hx
    · have h1' : A1 = [] := h1
      subst h1'
      have HH0 : Hid (A2 ≠ 0) := h0
      clear h0 h1 HLA
      by_cases hF : (runA k c (cl.take m)).2 = 0
      · have m5c : Hid (∀ W cv' v', Below w.heap.size w W → ILst W cv' (runA k c (cl.take m)).1 → CLst W v' (cl.drop m) → Calls Tryd.prog 5 #[.int .i64 k, cv', v'] W fun e w' => RunQ ([], A2) N e w' ∧ Below W.heap.size W w') := fun W cv' v' hb h h2 => by
          have h3 := m5b.out W cv' _ v' hb h h2
          rw [HYes2.out hF] at h3
          exact h3
        have HFF := hide hF
        clear hF
        go_wp2_with fail
        refine (m5a.out _ B2.out I2.out _ (vfront.out _ B2.out)).mono ?_
        rintro e w3 ⟨hq, b3⟩
        have B3 := hide (blw B2.out b3)
        clear b3 I2 B2 m5a m5b vfront HYes2 HNo2
        rcases hq with ⟨-, g2, cap2, rfl, hrw2⟩ | ⟨hx, -, -⟩
        · have IF := hide (hrw2.ilst N cap2 (HLF.out HFF.out).symm)
          clear hrw2 HLF HFF
          generalize (runA k c (cl.take m)).1 = F1 at *
          by_cases hn0 : 0 < n
          · obtain ⟨-, rfl⟩ := HVA.out (by rw [← HN.out]; exact hn0)
            have hmc : ¬ vcap = m := by omega
            have hmc2 : ¬ (vcap : Int) = (m : Int) := by omega
            have VB : Hid (∀ cap', CLst w3 (.slice (some ⟨vb, voff + m * 2, none⟩) (n - m) cap') (cl.drop m)) := fun cap' => by
              have h := (HV.out.on B3.out).back (m := m) (cap' := cap') (by rw [← HN.out]; exact hn0) (by rw [← HN.out]; exact hmn)
              rw [← HN.out] at h
              exact h
            go_wp2_with fail
            refine (m5c.out _ _ _ B3.out IF.out (VB.out _)).mono ?_
            rintro e w4 ⟨hq, b4⟩
            have B4 := hide (blw B3.out b4)
            clear b4 m5c B3 IF
            rcases hq with ⟨hx, -⟩ | ⟨-, -, rfl⟩
            · exact absurd hx HH0.out
            · have M4 := hide (sameNums_one _ _ [] w4 (ILst.nil w4 0) (ILst.nil w4 0) (by simp))
              go_wp2_with fail
              refine M4.out.mono ?_
              rintro e w5 ⟨rfl, b5⟩
              have B5 := hide (blw B4.out b5)
              clear b5 M4 B4
              go_wp2
              go_ret
              exact ⟨rfl, B5.out⟩
          · obtain rfl : n = 0 := by omega
            obtain rfl : m = 0 := by omega
            have hnil : cl.drop 0 = [] := List.eq_nil_of_length_eq_zero (by rw [List.length_drop, ← HN.out])
            go_wp2_with fail
            refine (m5c.out _ _ _ B3.out IF.out (by rw [hnil]; exact CLst.nil w3 va vcap)).mono ?_
            rintro e w4 ⟨hq, b4⟩
            have B4 := hide (blw B3.out b4)
            clear b4 m5c B3 IF
            rcases hq with ⟨hx, -⟩ | ⟨-, -, rfl⟩
            · exact absurd hx HH0.out
            · have M4 := hide (sameNums_one _ _ [] w4 (ILst.nil w4 0) (ILst.nil w4 0) (by simp))
              go_wp2_with fail
              refine M4.out.mono ?_
              rintro e w5 ⟨rfl, b5⟩
              have B5 := hide (blw B4.out b5)
              clear b5 M4 B4
              go_wp2
              go_ret
              exact ⟨rfl, B5.out⟩
        · exact absurd HFF.out hx
      · have hA : Hid (A2 = (runA k c (cl.take m)).2) := congrArg Prod.snd (HNo2.out hF)
        have HFF : Hid (¬ (runA k c (cl.take m)).2 = 0) := hF
        have hb : ((runA k c (cl.take m)).2 == 0) = false := by simpa using hF
        have hb2 : ((runA k c (cl.take m)).2 != 0) = true := by simpa using hF
        clear hF
        go_wp2_with fail
        refine (m5a.out _ B2.out I2.out _ (vfront.out _ B2.out)).mono ?_
        rintro e w3 ⟨hq, b3⟩
        have B3 := hide (blw B2.out b3)
        clear b3 I2 B2 m5a m5b vfront HYes2 HNo2
        rcases hq with ⟨hx, -⟩ | ⟨-, -, rfl⟩
        · exact absurd hx HFF.out
        · rw [← hA.out] at hb hb2
          rw [← hA.out]
          clear hA HFF
          go_wp2
          go_ret
          exact ⟨rfl, B3.out⟩
theorem twice_row (k : Int) (cv : Value) (c : List Int) (v : Value) (cl : List (Int × List Int)) (w : World) (hC : ILst w cv c) (hV : CLst w v cl) (hcap : ∀ a n c, v = .slice a n c → n ≤ c) (hg : Glo w) :
    Calls Tryd.prog 3 #[.int .i64 k, cv, v] w fun e w' => e = .returned (.bool true) ∧ Below w.heap.size w w' := twice_any k cv c v cl w hC hV hcap hg
end Go.Proofs.YthifgfhgkdjkfabDoor
