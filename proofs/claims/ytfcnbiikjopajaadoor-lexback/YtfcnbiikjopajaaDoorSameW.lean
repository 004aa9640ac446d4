/- The contract of the law's same. -/
import Derived.Test.YtfcnbiikjopajaaDoorTLst
namespace Go.Proofs.YtfcnbiikjopajaaDoor
open Go.RowKit
theorem core_ne {x y : Tv} (h : core x ≠ core y) : x.k ≠ y.k ∨ (x.k = y.k ∧ x.s ≠ y.s) ∨ (x.k = y.k ∧ x.s = y.s ∧ x.n ≠ y.n) ∨ (x.k = y.k ∧ x.s = y.s ∧ x.n = y.n ∧ x.t ≠ y.t) := by
  by_cases h1 : x.k = y.k
  · by_cases h2 : x.s = y.s
    · by_cases h3 : x.n = y.n
      · by_cases h4 : x.t = y.t
        · exact absurd (by unfold core; rw [h1, h2, h3, h4]) h
        · exact .inr (.inr (.inr ⟨h1, h2, h3, h4⟩))
      · exact .inr (.inr (.inl ⟨h1, h2, h3⟩))
    · exact .inr (.inl ⟨h1, h2⟩)
  · exact .inl h1
set_option maxRecDepth 100000 in
set_option maxHeartbeats 3200000 in
theorem same_any (va vb : Value) (la lb : List Tv) (w : World) (ha : Lst w va la) (hb : Lst w vb lb) (hla : la.length ≤ 4611686018427387904) :
    Calls Tryd.prog 19 #[va, vb] w fun e w' => e = .returned (.bool (decide (la.map core = lb.map core))) ∧ Below w.heap.size w w' := by
  obtain ⟨a, b, off, cap, rfl, hA, hI⟩ := ha
  obtain ⟨a2, b2, off2, cap2, rfl, hA2, hI2⟩ := hb
  by_cases hne : la.length = lb.length
  · have HA := hide hA
    have HI := hide hI
    have HA2 := hide hA2
    have HI2 := hide hI2
    have HL := hide hne
    obtain ⟨N, hN⟩ : ∃ N, N = la.length := ⟨_, rfl⟩
    have HN := hide hN
    have hN2 := hide (hN.trans hne)
    rw [← hne, ← hN]
    have l0 : (N : Int) ≤ 4611686018427387904 := by omega
    clear hN hA hI hA2 hI2 hla hne
    go_enter Tryd.func19, Tryd.ntmps19
    go_wp2_with fail
    go_loopw [13] (fun i wr => ∃ k : Nat, k ≤ N ∧ i = .int .i64 (k : Int) ∧ Hid ((la.map core).take k = (lb.map core).take k ∧ Below w.heap.size w wr)) (fun i _ => N - (intOf i).toNat)
    case atStart => exact ⟨0, by omega, rfl, rfl, Below.refl _ _⟩
    case round =>
      obtain ⟨k, hk, rfl, hh⟩ := hrel
      have HB := hide hh.out.2
      by_cases hlt : k < N
      · have j1 : (k : Int) < (N : Int) := by omega
        have j0 : (0 : Int) ≤ (k : Int) := by omega
        obtain ⟨x, hx⟩ : ∃ x, la[k]? = some x := ⟨_, List.getElem?_eq_getElem (by rw [← HN.out]; exact hlt)⟩
        obtain ⟨y, hy⟩ : ∃ y, lb[k]? = some y := ⟨_, List.getElem?_eq_getElem (by rw [← hN2.out]; exact hlt)⟩
        obtain ⟨hbw, rfl⟩ := HA.out (by rw [← HN.out]; omega)
        obtain ⟨hbw2, rfl⟩ := HA2.out (by rw [← hN2.out]; omega)
        obtain ⟨q0, q1, q2, q3, _⟩ := HI.out k x hx
        obtain ⟨r0, r1, r2, r3, _⟩ := HI2.out k y hy
        have c0 := (HB.out.cell (p := ⟨b, off + k * 5, none⟩) hbw).trans q0
        have c1 := (HB.out.cell (p := ⟨b, off + k * 5 + 1, none⟩) hbw).trans q1
        have c2 := (HB.out.cell (p := ⟨b, off + k * 5 + 2, none⟩) hbw).trans q2
        have c3 := (HB.out.cell (p := ⟨b, off + k * 5 + 3, none⟩) hbw).trans q3
        have d0 := (HB.out.cell (p := ⟨b2, off2 + k * 5, none⟩) hbw2).trans r0
        have d1 := (HB.out.cell (p := ⟨b2, off2 + k * 5 + 1, none⟩) hbw2).trans r1
        have d2 := (HB.out.cell (p := ⟨b2, off2 + k * 5 + 2, none⟩) hbw2).trans r2
        have d3 := (HB.out.cell (p := ⟨b2, off2 + k * 5 + 3, none⟩) hbw2).trans r3
        have HS : Hid (core x = core y → (la.map core).take (k + 1) = (lb.map core).take (k + 1)) := fun e => by
          rw [List.take_add_one, List.take_add_one, hh.out.1, List.getElem?_map, List.getElem?_map, hx, hy]
          show _ ++ [core x] = _ ++ [core y]
          rw [e]
        have HF : Hid (core x ≠ core y → decide (la.map core = lb.map core) = false) := fun e => decide_eq_false fun h => e (by
          have h1 := congrArg (fun z => z[k]?) h
          simp only [List.getElem?_map, hx, hy] at h1
          exact Option.some.inj h1)
        have bt := beq_text x.s y.s
        clear q0 q1 q2 q3 r0 r1 r2 r3 hx hy hh
        by_cases he : core x = core y
        · have HR := hide (HS.out he)
          obtain ⟨x0, x1, x2, x3, x4⟩ := x
          obtain ⟨y0, y1, y2, y3, y4⟩ := y
          unfold core at he
          simp only [Prod.mk.injEq] at he
          obtain ⟨rfl, rfl, rfl, rfl⟩ := he
          clear HS HF bt
          simp only [] at c0 c1 c2 c3 d0 d1 d2 d3
          go_wp2
          go_quiet (fail)
          go_wp2
          go_roundw
          case rel => exact ⟨k + 1, by omega, by go_num, HR.out, below_drawn HB.out _⟩
          case measure => simp [intOf]; omega
        · have HR := hide (HF.out he)
          have ho := core_ne he
          obtain ⟨x0, x1, x2, x3, x4⟩ := x
          obtain ⟨y0, y1, y2, y3, y4⟩ := y
          simp only [] at c0 c1 c2 c3 d0 d1 d2 d3 ho bt
          clear HS HF he
          rcases ho with h | ⟨rfl, h⟩ | ⟨rfl, rfl, h⟩ | ⟨rfl, rfl, rfl, h⟩
          · have e1 : (x0 != y0) = true := by rw [bne_iff_ne]; exact h
            clear bt h
            go_wp2
            go_quiet (fail)
            go_wp2
            go_ret
            exact ⟨by rw [HR.out]; rfl, below_drawn HB.out _⟩
          · rw [decide_eq_false h] at bt
            go_wp2
            go_quiet (fail)
            go_wp2
            go_ret
            exact ⟨by rw [HR.out]; rfl, below_drawn HB.out _⟩
          · have e1 : (x2 != y2) = true := by rw [bne_iff_ne]; exact h
            clear bt h
            go_wp2
            go_quiet (fail)
            go_wp2
            go_ret
            exact ⟨by rw [HR.out]; rfl, below_drawn HB.out _⟩
          · have e1 : (x3 != y3) = true := by rw [bne_iff_ne]; exact h
            clear bt h
            go_wp2
            go_quiet (fail)
            go_wp2
            go_ret
            exact ⟨by rw [HR.out]; rfl, below_drawn HB.out _⟩
      · have hkN : k = N := by omega
        have HR : Hid (decide (la.map core = lb.map core) = true) := decide_eq_true (by
          have h1 := hh.out.1
          rw [List.take_of_length_le (by rw [List.length_map, ← HN.out]; omega), List.take_of_length_le (by rw [List.length_map, ← hN2.out]; omega)] at h1
          exact h1)
        clear hh
        go_wp2
        go_ret
        exact ⟨by rw [HR.out]; rfl, HB.out⟩
  · have HR : Hid (decide (la.map core = lb.map core) = false) := decide_eq_false fun h => hne (by
      have := congrArg List.length h
      rwa [List.length_map, List.length_map] at this)
    have e1 : ((la.length : Int) == (lb.length : Int)) = false := by rw [beq_eq_false_iff_ne]; omega
    generalize la.length = N at *
    generalize lb.length = M at *
    clear hA hI hA2 hI2 hne
    go_enter Tryd.func19, Tryd.ntmps19
    go_wp2
    go_ret
    exact ⟨by rw [HR.out]; rfl, Below.refl _ _⟩
end Go.Proofs.YtfcnbiikjopajaaDoor
