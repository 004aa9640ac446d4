/- The walk of the law LexCase. -/
import Derived.Test.YtfcnbiikjopajaaDoorLstP
namespace Go.Proofs.YtfcnbiikjopajaaDoor
open Go.RowKit
theorem neq_same (k : Int) (s : ByteArray) (n t a : Int) (W : World) : (binOp .neq 41 (.agg #[.int .i64 k, .string s, .int .i64 n, .int .i64 t, .int .i64 a]) (.agg #[.int .i64 k, .string s, .int .i64 n, .int .i64 t, .int .i64 a])).run Tryd.prog W = .ok (.bool false) W := by
  simp [go_sem]
set_option maxRecDepth 100000 in
set_option maxHeartbeats 6400000 in
theorem case_any (l : Bs) (hl : l.length ≤ 140737488351232) (w : World) (hg : Glo w) : Calls Tryd.prog 7 #[.string ⟨l.toArray⟩] w fun e w' => e = .returned (.bool true) ∧ Below w.heap.size w w' := by
  have HG := hide hg
  have c0 := works_any w hg
  have c1 := fun W h => tokens_any l W h
  have c2 := fun W => upper_any l (by omega) W
  have c3 := fun W h => tokens_any (upL l) W h
  unfold TksOut at c1 c3
  rw [up_toks, up_length] at c3
  generalize (⟨(upL l).toArray⟩ : ByteArray) = s2 at *
  generalize (⟨l.toArray⟩ : ByteArray) = s at *
  clear hg hl
  cases ht : toks l with
  | error e =>
    obtain ⟨n, c⟩ := e
    rw [ht] at c1 c3
    simp only [] at c1 c3
    generalize ((l.length - n : Nat) : Int) = p at *
    go_enter Tryd.func7, Tryd.ntmps7
    go_wp2_with fail
    refine c0.mono ?_
    rintro e w0 ⟨rfl, hb0⟩
    have G0 := HG.out.below hb0 HG.out.lt
    clear c0
    go_wp2_with fail
    refine (c1 _ G0).mono ?_
    rintro e w1 ⟨rfl, hb1⟩
    have b1 := hb0.trans (hb1.mono hb0.size)
    have B1 := b1.alloc b1.size (.cells #[.int .i64 p, .int .i64 c] 25)
    clear c1
    go_wp2_with fail
    refine (c2 _).mono ?_
    rintro e w2 ⟨rfl, hb2⟩
    have B2 := B1.trans (hb2.mono B1.size)
    have z2 : w1.heap.size < w2.heap.size := by have := hb2.size; rw [World.size_alloc] at this; omega
    have k0 := (hb2.cell (p := ⟨w1.heap.size, 0, none⟩) (by simp)).trans (show _ = some (Value.int .i64 p) by simp)
    have k1 := (hb2.cell (p := ⟨w1.heap.size, 1, none⟩) (by simp)).trans (show _ = some (Value.int .i64 c) by simp)
    clear c2
    go_wp2_with fail
    refine (c3 _ (HG.out.below B2 HG.out.lt)).mono ?_
    rintro e w3 ⟨rfl, hb3⟩
    have B3 := hide (B2.trans (hb3.mono B2.size))
    have z3 := B3.out.size
    have z4 : w1.heap.size < w3.heap.size := by have := hb3.size; omega
    have m0 : ∀ o, (w3.alloc o).cell? ⟨w1.heap.size, 0, none⟩ = some (.int .i64 p) := fun o => (World.cell?_alloc_lt _ _ _ z4).trans ((hb3.cell (p := ⟨w1.heap.size, 0, none⟩) z2).trans k0)
    have m1 : ∀ o, (w3.alloc o).cell? ⟨w1.heap.size, 1, none⟩ = some (.int .i64 c) := fun o => (World.cell?_alloc_lt _ _ _ z4).trans ((hb3.cell (p := ⟨w1.heap.size, 1, none⟩) z2).trans k1)
    clear c3 hb0 hb1 hb2 hb3 B1 B2 b1 G0 HG k0 k1
    go_wp2
    go_loop [33] (fun i => i = .int .i64 0) (fun _ => 0)
    case atStart => rfl
    case round =>
      subst hrel
      go_wp2
      go_ret
      exact ⟨rfl, B3.out.alloc z3 _⟩
  | ok ts =>
    rw [ht] at c1 c3
    simp only [] at c1 c3
    obtain ⟨hlex, hcnt, hlen⟩ := toks_lexes ht
    have hpos := lexes_pos hlex
    have hdown := hide hlex.down
    have n1 : (ts.length : Int) ≤ 4096 := by omega
    go_enter Tryd.func7, Tryd.ntmps7
    go_wp2_with fail
    refine c0.mono ?_
    rintro e w0 ⟨rfl, hb0⟩
    have G0 := HG.out.below hb0 HG.out.lt
    clear c0
    go_wp2_with fail
    refine (c1 _ G0).mono ?_
    rintro e w1 ⟨⟨v1, rfl, ho1⟩, hb1⟩
    obtain ⟨g1, cap1, rfl, hcap1, hg1, at1⟩ := TkAt.of_owns ho1 hpos
    have b1 := hb0.trans (hb1.mono hb0.size)
    have B1 := b1.alloc b1.size (.cells #[.int .i64 0, .int .i64 0] 25)
    clear c1
    go_wp2_with fail
    refine (c2 _).mono ?_
    rintro e w2 ⟨rfl, hb2⟩
    have B2 := B1.trans (hb2.mono B1.size)
    have z2 : w1.heap.size < w2.heap.size := by have := hb2.size; rw [World.size_alloc] at this; omega
    have k0 := (hb2.cell (p := ⟨w1.heap.size, 0, none⟩) (by simp)).trans (show _ = some (Value.int .i64 0) by simp)
    have k1 := (hb2.cell (p := ⟨w1.heap.size, 1, none⟩) (by simp)).trans (show _ = some (Value.int .i64 0) by simp)
    have at2 := (at1.below ((Below.refl _ _).alloc (Nat.le_refl _) (.cells #[.int .i64 0, .int .i64 0] 25)) hg1).below hb2 (by rw [World.size_alloc]; omega)
    clear c2
    go_wp2_with fail
    refine (c3 _ (HG.out.below B2 HG.out.lt)).mono ?_
    rintro e w3 ⟨⟨v2, rfl, ho2⟩, hb3⟩
    obtain ⟨g2, cap2, rfl, hcap2, hg2, bt⟩ := TkAt.of_owns ho2 hpos
    have B3 := hide (B2.trans (hb3.mono B2.size))
    have z3 := B3.out.size
    have z4 : w1.heap.size < w3.heap.size := by have := hb3.size; omega
    have m0 : ∀ o, (w3.alloc o).cell? ⟨w1.heap.size, 0, none⟩ = some (.int .i64 0) := fun o => (World.cell?_alloc_lt _ _ _ z4).trans ((hb3.cell (p := ⟨w1.heap.size, 0, none⟩) z2).trans k0)
    have m1 : ∀ o, (w3.alloc o).cell? ⟨w1.heap.size, 1, none⟩ = some (.int .i64 0) := fun o => (World.cell?_alloc_lt _ _ _ z4).trans ((hb3.cell (p := ⟨w1.heap.size, 1, none⟩) z2).trans k1)
    have A1 := hide (at2.below hb3 (by omega))
    have A2 := hide bt
    have B4 := hide (B3.out.alloc z3 (.cells #[.int .i64 0, .int .i64 0] 25))
    have A1' := hide (A1.out.below ((Below.refl _ _).alloc (Nat.le_refl _) (.cells #[.int .i64 0, .int .i64 0] 25)) (by omega))
    have A2' := hide (bt.below ((Below.refl _ _).alloc (Nat.le_refl _) (.cells #[.int .i64 0, .int .i64 0] 25)) hg2)
    clear c3 hb0 hb1 hb2 hb3 B1 B2 b1 G0 HG k0 k1 at1 at2 bt A1 A2 ho1 ho2 hlex ht
    go_wp2_with fail
    clear m0 m1
    generalize w3.alloc (.cells #[.int .i64 0, .int .i64 0] 25) = W4 at *
    go_loopw [33] (fun i wr => ∃ k : Nat, k ≤ ts.length ∧ i = .int .i64 (k : Int) ∧ Hid (∃ n, wr = W4.drewN n)) (fun i _ => ts.length - (intOf i).toNat)
    case atStart => exact ⟨0, by omega, rfl, 0, rfl⟩
    case round =>
      obtain ⟨k, hk, rfl, hw⟩ := hrel
      by_cases hlt : k < ts.length
      · have j1 : (k : Int) < (ts.length : Int) := by omega
        have j0 : (0 : Int) ≤ (k : Int) := by omega
        obtain ⟨nn, hwr⟩ := hw.out
        obtain ⟨a0, a1, a2, a3, a4⟩ := A1'.out k hlt
        obtain ⟨d0, d1, d2, d3, d4⟩ := A2'.out k hlt
        have hq := neq_same
        subst hwr
        have HD : Hid (∀ j (h1 : j + 1 < ts.length) (h0 : j < ts.length), ((l.length - (ts[j]'h0).2 : Nat) : Int) < ((l.length - (ts[j + 1]'h1).2 : Nat) : Int)) := fun j h1 h0 => by
          have h2 := (List.pairwise_iff_getElem.1 hdown.out.2) j (j + 1) h0 h1 (by omega)
          have h3 := hdown.out.1 _ (List.getElem_mem h0)
          omega
        by_cases hk0 : k = 0
        · subst hk0
          generalize (ts[0]'hlt).1.kind = x0 at *
          generalize (⟨(ts[0]'hlt).1.s.toArray⟩ : ByteArray) = x1 at *
          generalize (ts[0]'hlt).1.n = x2 at *
          generalize (ts[0]'hlt).1.ty = x3 at *
          generalize ((l.length - (ts[0]'hlt).2 : Nat) : Int) = x4 at *
          simp only [Nat.zero_mul, Nat.zero_add] at a0 a1 a2 a3 a4 d0 d1 d2 d3 d4
          clear hw A1' A2' HD
          rw [show ((0 : Nat) : Int) = 0 from rfl]
          go_wp2
          go_quiet (fail)
          go_wp2
          go_roundw
          case rel => exact ⟨1, by omega, rfl, _, rfl⟩
          case measure => simp [intOf]; omega
        · obtain ⟨j, rfl⟩ : ∃ j, k = j + 1 := ⟨k - 1, by omega⟩
          have hj : j < ts.length := by omega
          have i0 : (0 : Int) < ((j + 1 : Nat) : Int) := by omega
          have e4 := (A1'.out j hj).2.2.2.2
          have hlt4 := HD.out j hlt hj
          have hnle : decide (((l.length - (ts[j + 1]'hlt).2 : Nat) : Int) ≤ ((l.length - (ts[j]'hj).2 : Nat) : Int)) = false := decide_eq_false (by omega)
          have hsub : ((j + 1 : Nat) : Int) - 1 = (j : Int) := by omega
          have hj0 : (0 : Int) ≤ (j : Int) := by omega
          have hj1 : (j : Int) < (ts.length : Int) := by omega
          generalize (ts[j + 1]'hlt).1.kind = x0 at *
          generalize (⟨(ts[j + 1]'hlt).1.s.toArray⟩ : ByteArray) = x1 at *
          generalize (ts[j + 1]'hlt).1.n = x2 at *
          generalize (ts[j + 1]'hlt).1.ty = x3 at *
          generalize ((l.length - (ts[j + 1]'hlt).2 : Nat) : Int) = x4 at *
          generalize ((l.length - (ts[j]'hj).2 : Nat) : Int) = x5 at *
          clear hw A1' A2' HD hk0
          go_wp2
          go_quiet (fail)
          go_wp2
          go_roundw
          case rel => exact ⟨j + 1 + 1, by omega, by go_num, _, rfl⟩
          case measure => simp only [intOf]; omega
      · go_wp2
        go_ret
        obtain ⟨nn, hwr⟩ := hw.out
        exact ⟨rfl, by rw [hwr]; exact below_drawn B4.out _⟩
theorem case_row (s : ByteArray) (hs : s.size ≤ 140737488351232) (w : World) (hg : Glo w) : Calls Tryd.prog 7 #[.string s] w fun e w' => e = .returned (.bool true) ∧ Below w.heap.size w w' := by
  rw [to_list s]
  exact case_any s.data.toList (by rw [text_len]; exact hs) w hg
end Go.Proofs.YtfcnbiikjopajaaDoor
