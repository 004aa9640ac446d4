/- The walk of the law LexNumbers. -/
import Derived.Test.YtfcnbiikjopajaaDoorNmP
namespace Go.Proofs.YtfcnbiikjopajaaDoor
open Go.RowKit
set_option maxRecDepth 100000 in
set_option maxHeartbeats 6400000 in
theorem nums_row (z : Int) (_ : (Lit.int .i64 z).wf = true) (w : World) (hg : Glo w) : Calls Tryd.prog 8 #[.int .i64 z] w fun e w' => e = .returned (.bool true) ∧ Below w.heap.size w w' := by
  have HG := hide hg
  have c0 := works_any w hg
  go_enter Tryd.func8, Tryd.ntmps8
  go_wp2_with fail
  refine c0.mono ?_
  rintro e w0 ⟨rfl, hb0⟩
  clear c0
  obtain ⟨n, hn, hnn⟩ : ∃ n : Nat, n < 2147483648 ∧ wrap64 ((IntKind.u64.wrap z).tmod 2147483648) = (n : Int) := by
    have h0 : (0 : Int) ≤ IntKind.u64.wrap z := by simp only [IntKind.wrap, IntKind.bits, IntKind.signed]; simp; omega
    have h1 : (IntKind.u64.wrap z).tmod 2147483648 = (IntKind.u64.wrap z) % 2147483648 := Int.tmod_eq_emod_of_nonneg h0
    have h2 : (0 : Int) ≤ (IntKind.u64.wrap z) % 2147483648 := Int.emod_nonneg _ (by decide)
    have h3 : (IntKind.u64.wrap z) % 2147483648 < 2147483648 := Int.emod_lt_of_pos _ (by decide)
    refine ⟨((IntKind.u64.wrap z) % 2147483648).toNat, by omega, ?_⟩
    rw [h1]
    unfold wrap64
    omega
  have B1 := hb0.alloc hb0.size (.cells #[.bool false, .bool true] 4)
  go_wp2_with fail
  rw [hnn]
  have e0 : (w0.alloc (.cells #[.bool false, .bool true] 4)).cell? ⟨w0.heap.size, 0, none⟩ = some (.bool false) := by simp
  have e1 : (w0.alloc (.cells #[.bool false, .bool true] 4)).cell? ⟨w0.heap.size, 1, none⟩ = some (.bool true) := by simp
  have hz0 := hb0.size
  have hz1 : w0.heap.size < (w0.alloc (.cells #[.bool false, .bool true] 4)).heap.size := by rw [World.size_alloc]; omega
  have n0 : (0 : Int) ≤ (n : Int) := by omega
  have n1 : (n : Int) < 2147483648 := by omega
  generalize hb : w0.heap.size = g at *
  generalize w0.alloc (.cells #[.bool false, .bool true] 4) = W1 at *
  clear hnn hb0
  go_loopw [3, 19] (fun s i wr => ∃ (k : Nat) (t : ByteArray), k ≤ 2 ∧ s = .string t ∧ i = .int .i64 (k : Int) ∧ Hid (t = ⟨(numsAt n k).toArray⟩ ∧ Below W1.heap.size W1 wr)) (fun _ i _ => 2 - (intOf i).toNat)
  case atStart => exact ⟨0, ⟨#[]⟩, by omega, rfl, rfl, rfl, Below.refl _ _⟩
  case round =>
    obtain ⟨k, t, hk, rfl, rfl, hh⟩ := hrel
    by_cases hk2 : k = 2
    · subst hk2
      have HGr := hide (HG.out.below (B1.trans (hh.out.2.mono B1.size)) HG.out.lt)
      have HBr := hide (B1.trans (hh.out.2.mono B1.size))
      obtain ⟨ps, hps, hmap⟩ := toks_nums hn
      obtain ⟨hlen, hat⟩ := nums_at hmap
      have c1 := fun W h => tokens_any (numsAt n 2) W h
      unfold TksOut at c1
      rw [show numsAt n 2 = blanks (numPieces n) from rfl, hps] at c1
      simp only [] at c1
      rw [show blanks (numPieces n) = numsAt n 2 from rfl, ← hh.out.1] at c1
      clear hh e0 e1
      go_wp2_with fail
      refine (c1 _ HGr.out).mono ?_
      rintro e w1 ⟨⟨v1, rfl, ho1⟩, hb1⟩
      obtain ⟨g1, cap1, rfl, hcap1, hg1, at1⟩ := TkAt.of_owns ho1 (by omega)
      have b1 := HBr.out.trans (hb1.mono HBr.out.size)
      rw [hlen] at hcap1
      rw [hlen]
      clear c1 ho1
      go_wp2_with fail
      have B2 := b1.alloc b1.size (.cells #[.int .i64 0, .int .i64 0] 25)
      have at2 := hide (at1.below ((Below.refl _ _).alloc (Nat.le_refl _) (.cells #[.int .i64 0, .int .i64 0] 25)) hg1)
      have f0 : (w1.alloc (.cells #[.int .i64 0, .int .i64 0] 25)).cell? ⟨w1.heap.size, 0, none⟩ = some (.int .i64 0) := by simp
      have f1 : (w1.alloc (.cells #[.int .i64 0, .int .i64 0] 25)).cell? ⟨w1.heap.size, 1, none⟩ = some (.int .i64 0) := by simp
      have r0 : (w1.alloc (.cells #[.int .i64 0, .int .i64 0] 25)).frozen? ⟨w1.heap.size, 0, none⟩ = false := by simp
      have r1 : (w1.alloc (.cells #[.int .i64 0, .int .i64 0] 25)).frozen? ⟨w1.heap.size, 1, none⟩ = false := by simp
      have hg2 : g1 < (w1.alloc (.cells #[.int .i64 0, .int .i64 0] 25)).heap.size := by rw [World.size_alloc]; omega
      have hf2 : w1.heap.size < (w1.alloc (.cells #[.int .i64 0, .int .i64 0] 25)).heap.size := by rw [World.size_alloc]; omega
      have hwf : w.heap.size ≤ w1.heap.size := b1.size
      generalize w1.alloc (.cells #[.int .i64 0, .int .i64 0] 25) = W2 at *
      generalize w1.heap.size = fz at *
      have HB2 := hide B2
      have HF := hide (And.intro f0 f1)
      have HZ := hide (And.intro r0 r1)
      clear B2 f0 f1 r0 r1 at1 hb1 b1 hg1
      go_loopw [66] (fun i wr => ∃ (k : Nat), k ≤ 10 ∧ i = .int .i64 (k : Int) ∧ Hid (Below W2.heap.size W2 wr)) (fun i _ => 10 - (intOf i).toNat)
      case atStart => exact ⟨0, by omega, rfl, Below.refl _ _⟩
      case round =>
        obtain ⟨k, hk10, rfl, hw⟩ := hrel
        by_cases hlt : k < 10
        · have j1 : (k : Int) < 10 := by omega
          have j0 : (0 : Int) ≤ (k : Int) := by omega
          obtain ⟨a0, a1, a2, a3, a4⟩ := (at2.out.below hw.out hg2) k (by omega)
          rw [hat k (by omega) hlt] at a0 a1 a2 a3
          simp only [numT] at a0 a1 a2 a3
          have hsz : wr.heap.size < (wr.alloc (.cells #[.int .i64 0, .string ⟨#[]⟩, .int .i64 0, .int .i64 0, .int .i64 0] 41)).heap.size := by rw [World.size_alloc]; omega
          have hgw : g1 < wr.heap.size := by have := hw.out.size; omega
          have hrem : (k : Int).tmod 5 = ((k % 5 : Nat) : Int) := by rw [Int.tmod_eq_emod_of_nonneg j0]; rfl
          generalize ((numsAt n 2).length - (ps[k]'(by omega)).2 : Nat) = pl at *
          by_cases h5 : k % 5 = 4
          · rw [if_pos h5] at a3
            rw [h5] at hrem
            rw [show ((4 : Nat) : Int) = 4 from rfl] at hrem
            clear h5 hlen hb
            go_wp2_with fail
            go_roundw
            case rel => exact ⟨k + 1, by omega, by go_num, hw.out.alloc hw.out.size _⟩
            case measure => simp only [intOf]; omega
          · rw [if_neg h5] at a3
            obtain ⟨r, hr⟩ : ∃ r : Int, r = ((k % 5 : Nat) : Int) := ⟨_, rfl⟩
            have hr4 : (r == 4) = false := by rw [hr, beq_eq_false_iff_ne]; omega
            rw [← hr] at hrem
            clear h5 hlen hb hr
            go_wp2_with fail
            go_roundw
            case rel => exact ⟨k + 1, by omega, by go_num, hw.out.alloc hw.out.size _⟩
            case measure => simp only [intOf]; omega
        · have hkk : k = 10 := by omega
          subst hkk
          have f0 := (hw.out.cell (p := ⟨fz, 0, none⟩) hf2).trans HF.out.1
          have f1 := (hw.out.cell (p := ⟨fz, 1, none⟩) hf2).trans HF.out.2
          have b3 := hide (HB2.out.trans (hw.out.mono HB2.out.size))
          have cd := digL_in n hn 10 (by decide) (by decide) 10 rfl false wr.heap.size wr wr (Below.refl _ _) (Nat.le_refl _)
          have hti := toks_int hn
          have hadd : Op.stringOp .add ⟨#[73, 78, 84, 35]⟩ ⟨(repP 10 n false).toArray⟩ = pure (.string ⟨([73, 78, 84, 35] ++ repP 10 n false).toArray⟩) := by
            have := str_add ⟨[73, 78, 84, 35].toArray⟩ ⟨(repP 10 n false).toArray⟩ (by rw [list_size, list_size]; have := repP_len 10 n false; simp; omega)
            rw [app_text] at this
            exact this
          have c9 := fun W h => tokens_any ([73, 78, 84, 35] ++ repP 10 n false) W h
          unfold TksOut at c9
          have r0b := hide ((hw.out.frozen (p := ⟨fz, 0, none⟩) hf2).trans HZ.out.1)
          have r1b := hide ((hw.out.frozen (p := ⟨fz, 1, none⟩) hf2).trans HZ.out.2)
          have f0b := hide f0
          have f1b := hide f1
          have hwr := hide (show fz < wr.heap.size by have := hw.out.size; omega)
          clear hw HB2 HF hmap hat at2 hps f0 f1
          generalize (⟨([73, 78, 84, 35] ++ repP 10 n false).toArray⟩ : ByteArray) = it at *
          generalize (⟨(repP 10 n false).toArray⟩ : ByteArray) = dt at *
          go_wp2_with fail
          refine cd.mono ?_
          rintro e w3 ⟨rfl, b4⟩
          have b5 := b3.out.trans (b4.mono b3.out.size)
          go_wp2_with fail
          refine (c9 _ (HG.out.below b5 HG.out.lt)).mono ?_
          by_cases hs : n < 32768
          · rw [if_pos hs] at hti
            obtain ⟨ps2, h2⟩ := hti
            rw [h2]
            simp only []
            have hni : (n : Int) < 32768 := by omega
            rintro e w4 ⟨⟨v4, rfl, -⟩, hb4⟩
            have b6 := b4.trans (hb4.mono b4.size)
            have B5 := hide (b3.out.trans (b6.mono b3.out.size))
            have r0 := (b6.frozen (p := ⟨fz, 0, none⟩) hwr.out).trans r0b.out
            have r1 := (b6.frozen (p := ⟨fz, 1, none⟩) hwr.out).trans r1b.out
            have f0 := (b6.cell (p := ⟨fz, 0, none⟩) hwr.out).trans f0b.out
            have f1 := (b6.cell (p := ⟨fz, 1, none⟩) hwr.out).trans f1b.out
            clear b6 hb4 b4 b5 hk hk10 hlt HGr HBr f0b f1b r0b r1b HZ hs
            generalize (n : Int) = N at *
            clear c9 h2 cd hadd hlen hb
            go_wp2
            go_ret
            exact ⟨rfl, (B5.out.setCell hwf _).setCell hwf _⟩
          · rw [if_neg hs] at hti
            rw [hti]
            simp only []
            have hni : ¬ (n : Int) < 32768 := by omega
            rintro e w4 ⟨rfl, hb4⟩
            have b6 := b4.trans (hb4.mono b4.size)
            have B5 := hide (b3.out.trans (b6.mono b3.out.size))
            have r0 := (b6.frozen (p := ⟨fz, 0, none⟩) hwr.out).trans r0b.out
            have r1 := (b6.frozen (p := ⟨fz, 1, none⟩) hwr.out).trans r1b.out
            have f0 := (b6.cell (p := ⟨fz, 0, none⟩) hwr.out).trans f0b.out
            have f1 := (b6.cell (p := ⟨fz, 1, none⟩) hwr.out).trans f1b.out
            clear b6 hb4 b4 b5 hk hk10 hlt HGr HBr f0b f1b r0b r1b HZ hs
            generalize (n : Int) = N at *
            clear c9 cd hadd hlen hb hti
            go_wp2
            go_ret
            exact ⟨by show Ending.returned (.bool (!decide (N < 32768))) = _; rw [decide_eq_false (by omega)]; rfl, (B5.out.setCell hwf _).setCell hwf _⟩
    · obtain ⟨p, hp⟩ : ∃ p : Bool, (k = 0 ∧ p = false) ∨ (k = 1 ∧ p = true) := by
        by_cases h : k = 0
        · exact ⟨false, .inl ⟨h, rfl⟩⟩
        · exact ⟨true, .inr ⟨by omega, rfl⟩⟩
      have hcell : wr.cell? ⟨g, k, none⟩ = some (.bool p) := by
        rw [hh.out.2.cell (p := ⟨g, k, none⟩) hz1]
        rcases hp with ⟨rfl, rfl⟩ | ⟨rfl, rfl⟩
        · exact e0
        · exact e1
      have k0 : (0 : Int) ≤ (k : Int) := by omega
      have k2 : (k : Int) < 2 := by omega
      obtain ⟨t1, t2, t3, t4, t5, t6, t7, t8, t9, t10, s1, s2, s3, s4, s5, s6, s7, s8, s9, s10, he⟩ := sums (numsAt n k) (repP 10 n p) (repP 2 n p) (repP 8 n p) (repP 16 n p) (numsAt_len n k) (repP_len _ _ _) (repP_len _ _ _) (repP_len _ _ _) (repP_len _ _ _)
      rw [numsAt_step n k p hp] at he
      rw [← hh.out.1] at s10
      have C10 := hide fun W (h : Below W1.heap.size W1 W) => digL_in n hn 10 (by decide) (by decide) 10 rfl p W1.heap.size W1 W h h.size
      have C2 := hide fun W (h : Below W1.heap.size W1 W) => digL_in n hn 2 (by decide) (by decide) 2 rfl p W1.heap.size W1 W h h.size
      have C8 := hide fun W (h : Below W1.heap.size W1 W) => digL_in n hn 8 (by decide) (by decide) 8 rfl p W1.heap.size W1 W h h.size
      have C16 := hide fun W (h : Below W1.heap.size W1 W) => digL_in n hn 16 (by decide) (by decide) 16 rfl p W1.heap.size W1 W h h.size
      generalize (⟨(repP 10 n p).toArray⟩ : ByteArray) = d10 at *
      generalize (⟨(repP 2 n p).toArray⟩ : ByteArray) = d2 at *
      generalize (⟨(repP 8 n p).toArray⟩ : ByteArray) = d8 at *
      generalize (⟨(repP 16 n p).toArray⟩ : ByteArray) = d16 at *
      have HE := hide he
      have HB := hide hh.out.2
      clear hh he hp
      go_wp2_with fail
      refine (C10.out _ HB.out).mono ?_
      rintro e w1 ⟨rfl, b1⟩
      go_wp2_with fail
      refine (C2.out _ b1).mono ?_
      rintro e w2 ⟨rfl, b2⟩
      go_wp2_with fail
      refine (C8.out _ b2).mono ?_
      rintro e w3 ⟨rfl, b3⟩
      go_wp2_with fail
      refine (C16.out _ b3).mono ?_
      rintro e w4 ⟨rfl, b4⟩
      go_wp2_with fail
      refine (C10.out _ b4).mono ?_
      rintro e w5 ⟨rfl, b5⟩
      go_wp2_with fail
      go_roundw
      case rel => exact ⟨k + 1, _, by omega, rfl, by go_num, HE.out, b5⟩
      case measure => simp only [intOf]; omega
end Go.Proofs.YtfcnbiikjopajaaDoor
