/- The contract of the book's SameParts. | Slices of texts that read as a list; the contract of the book's SameTexts, at one list. -/
import Derived.Test.YtkicbmjjbnblfaaGreatDoorPlA
import Derived.Deep.RegionHeld3
import Derived.Deep.QuietTactic
import Derived.Test.YtkicbmjjbnblfaaGreatDoorNmA
namespace Go.Proofs.YtkicbmjjbnblfaaGreatDoor
open Go.RowKit
theorem neq46 (k n t k' n' t' : Int) (s f s' f' : ByteArray) : ∃ b, (∀ W, (binOp .neq 39 (.agg #[.int .i64 k, .int .i64 n, .int .i64 t, .string s, .string f]) (.agg #[.int .i64 k', .int .i64 n', .int .i64 t', .string s', .string f'])).run Tryz.prog W = .ok (.bool b) W) ∧ b = !decide (k = k' ∧ n = n' ∧ t = t' ∧ s = s' ∧ f = f') := by
  refine ⟨!decide (k = k' ∧ n = n' ∧ t = t' ∧ s = s' ∧ f = f'), fun W => ?_, rfl⟩
  by_cases h1 : k = k'
  · by_cases h2 : n = n'
    · by_cases h3 : t = t'
      · by_cases h4 : s = s'
        · by_cases h5 : f = f'
          · subst h1 h2 h3 h4 h5; simp [go_sem]
          · subst h1 h2 h3 h4
            have hb : (f.toList == f'.toList) = false := by rw [beq_text]; exact decide_eq_false h5
            simp [go_sem, h5, hb]
        · subst h1 h2 h3
          have hb : (s.toList == s'.toList) = false := by rw [beq_text]; exact decide_eq_false h4
          simp [go_sem, h4, hb]
      · subst h1 h2; simp [go_sem, h3]
    · subst h1; simp [go_sem, h2]
  · simp [go_sem, h1]
theorem take_eq {α : Type} {x y : List α} {k : Nat} {a : α} (h : x.take k = y.take k) (hx : x[k]? = some a) (hy : y[k]? = some a) : x.take (k + 1) = y.take (k + 1) := by
  rw [List.take_add_one, List.take_add_one, h, hx, hy]
set_option maxRecDepth 100000 in
set_option maxHeartbeats 3200000 in
theorem sameParts_any (va vb : Value) (x y : List Pv) (w : World) (ha : PLst w va x) (hb : PLst w vb y) (hla : x.length ≤ 3000000000000) (hlb : y.length ≤ 3000000000000) :
    Calls Tryz.prog 30 #[va, vb] w fun e w' => (∃ bb, e = .returned (.bool bb) ∧ (bb = true ↔ x = y)) ∧ Below w.heap.size w w' := by
  obtain ⟨a, b, off, cap, rfl, hA, hI⟩ := ha
  obtain ⟨a2, b2, off2, cap2, rfl, hA2, hI2⟩ := hb
  by_cases hne : x.length = y.length
  · have HA := hide hA
    have HI := hide hI
    have HA2 := hide hA2
    have HI2 := hide hI2
    obtain ⟨N, hN⟩ : ∃ N, N = x.length := ⟨_, rfl⟩
    have HN := hide hN
    have HN2 : Hid (N = y.length) := hN.trans hne
    rw [← HN2.out, ← hN]
    have l0 : (N : Int) ≤ 3000000000000 := by omega
    clear hN hA hI hA2 hI2 hla hlb hne
    go_enter Tryz.func30, Tryz.ntmps30
    go_wp2_with fail
    go_loopw [5] (fun i wr => ∃ k : Nat, k ≤ N ∧ i = .int .i64 (k : Int) ∧ Hid (x.take k = y.take k ∧ Below w.heap.size w wr)) (fun i _ => N - (intOf i).toNat)
    case atStart => exact ⟨0, by omega, rfl, rfl, Below.refl _ _⟩
    case round =>
      obtain ⟨k, hk, rfl, hh⟩ := hrel
      have HT := hide hh.out.1
      have HB := hide hh.out.2
      clear hh
      by_cases hlt : k < N
      · have j1 : (k : Int) < (N : Int) := by omega
        have j0 : (0 : Int) ≤ (k : Int) := by omega
        obtain ⟨p, hp⟩ : ∃ p, x[k]? = some p := ⟨_, List.getElem?_eq_getElem (by rw [← HN.out]; exact hlt)⟩
        obtain ⟨q, hq⟩ : ∃ q, y[k]? = some q := ⟨_, List.getElem?_eq_getElem (by rw [← HN2.out]; exact hlt)⟩
        obtain ⟨hbw, rfl⟩ := HA.out (by rw [← HN.out]; omega)
        obtain ⟨hbw2, rfl⟩ := HA2.out (by rw [← HN2.out]; omega)
        obtain ⟨q0, q1, q2, q3, q4⟩ := HI.out k p hp
        obtain ⟨r0, r1, r2, r3, r4⟩ := HI2.out k q hq
        have c0 := (HB.out.cell (p := ⟨b, off + k * 5, none⟩) hbw).trans q0
        have c1 := (HB.out.cell (p := ⟨b, off + k * 5 + 1, none⟩) hbw).trans q1
        have c2 := (HB.out.cell (p := ⟨b, off + k * 5 + 2, none⟩) hbw).trans q2
        have c3 := (HB.out.cell (p := ⟨b, off + k * 5 + 3, none⟩) hbw).trans q3
        have c4 := (HB.out.cell (p := ⟨b, off + k * 5 + 4, none⟩) hbw).trans q4
        have d0 := (HB.out.cell (p := ⟨b2, off2 + k * 5, none⟩) hbw2).trans r0
        have d1 := (HB.out.cell (p := ⟨b2, off2 + k * 5 + 1, none⟩) hbw2).trans r1
        have d2 := (HB.out.cell (p := ⟨b2, off2 + k * 5 + 2, none⟩) hbw2).trans r2
        have d3 := (HB.out.cell (p := ⟨b2, off2 + k * 5 + 3, none⟩) hbw2).trans r3
        have d4 := (HB.out.cell (p := ⟨b2, off2 + k * 5 + 4, none⟩) hbw2).trans r4
        have HP := hide hp
        have HQ := hide hq
        obtain ⟨bb, hrun, hbb⟩ := neq46 p.k p.n p.t q.k q.n q.t p.s p.f q.s q.f
        have HBB := hide hbb
        clear q0 q1 q2 q3 q4 r0 r1 r2 r3 r4 hp hq hbb
        cases bb with
        | true =>
          have HNO : Hid (¬ x = y) := fun h => by
            have h1 := HP.out
            rw [h, HQ.out] at h1
            have h2 := Option.some.inj h1
            have h3 := HBB.out
            rw [h2] at h3
            simp at h3
          go_wp2
          go_quiet (fail)
          go_wp2
          go_ret
          exact ⟨⟨false, rfl, ⟨fun h => absurd h (by decide), fun h => absurd h HNO.out⟩⟩, below_drawn HB.out _⟩
        | false =>
          have HT2 : Hid (x.take (k + 1) = y.take (k + 1)) := by
            have h3 := HBB.out
            have h4 : p = q := by
              obtain ⟨p0, p1, p2, p3, p4⟩ := p
              obtain ⟨s0, s1, s2, s3, s4⟩ := q
              simp only [] at h3
              have h5 := of_decide_eq_true (by simpa using h3 : decide _ = true)
              obtain ⟨e1, e2, e3, e4, e5⟩ := h5
              subst e1 e2 e3 e4 e5
              rfl
            exact take_eq HT.out HP.out (by rw [h4]; exact HQ.out)
          go_wp2
          go_quiet (fail)
          go_wp2
          go_roundw
          case rel => exact ⟨k + 1, by omega, by go_num, HT2.out, below_drawn HB.out _⟩
          case measure => simp [intOf]; omega
      · have HE : Hid (x = y) := by
          have h1 := HT.out
          rw [List.take_of_length_le (by rw [← HN.out]; omega), List.take_of_length_le (by rw [← HN2.out]; omega)] at h1
          exact h1
        go_wp2
        go_ret
        exact ⟨⟨true, rfl, fun _ => HE.out, fun _ => rfl⟩, HB.out⟩
  · have i1 : ((x.length : Int) == (y.length : Int)) = false := by rw [beq_eq_false_iff_ne]; omega
    have HNO : Hid (¬ x = y) := fun h => hne (by rw [h])
    have l1 : (x.length : Int) ≤ 3000000000000 := by omega
    have l2 : (y.length : Int) ≤ 3000000000000 := by omega
    clear hA hI hA2 hI2 hne hla hlb
    generalize x.length = X at *
    generalize y.length = Y at *
    go_enter Tryz.func30, Tryz.ntmps30
    go_wp2
    go_ret
    exact ⟨⟨false, rfl, ⟨fun h => absurd h (by decide), fun h => absurd h HNO.out⟩⟩, Below.refl _ _⟩
end Go.Proofs.YtkicbmjjbnblfaaGreatDoor
namespace Go.Proofs.YtkicbmjjbnblfaaGreatDoor
open Go.RowKit
/-- a slice that reads as a list of texts -/
def SLst (w : World) (v : Value) (l : List Bs) : Prop :=
  ∃ (a : Option Addr) (b off cap : Nat), v = .slice a l.length cap ∧ (0 < l.length → b < w.heap.size ∧ a = some ⟨b, off, none⟩) ∧ ∀ i s, l[i]? = some s → w.cell? ⟨b, off + i, none⟩ = some (.string ⟨s.toArray⟩)
theorem SLst.below {w w' : World} {v : Value} {l : List Bs} {B : Nat} (h : SLst w v l) (hb : Below B w w') (hB : w.heap.size ≤ B) : SLst w' v l := by
  obtain ⟨a, b, off, cap, rfl, hA, hI⟩ := h
  refine ⟨a, b, off, cap, rfl, fun h => ⟨by have := hb.size; have := (hA h).1; omega, (hA h).2⟩, fun i s hs => ?_⟩
  have hlt : b < B := by have := (hA (by have := (List.getElem?_eq_some_iff.1 hs).1; omega)).1; omega
  exact (hb.cell (p := ⟨b, _, none⟩) hlt).trans (hI i s hs)
theorem SLst.of_owns {w : World} {base : Nat} {v : Value} {l : List Bs} (h : w.ownsRow base 9 1 v l.length (l.map encStr)) : SLst w v l := by
  rcases h.2 with ⟨rfl, h0⟩ | ⟨g, cap, cur, rfl, hb, hg, hn, hm, hc, ht⟩
  · have hl : l = [] := List.eq_nil_of_length_eq_zero h0
    subst hl
    exact ⟨none, 0, 0, 0, rfl, fun h => absurd h (Nat.lt_irrefl 0), fun i x hx => by cases hx⟩
  · refine ⟨some ⟨g, 0, none⟩, g, 0, cap, rfl, fun _ => ⟨(Array.getElem?_eq_some_iff.1 hg).1, rfl⟩, fun i s hs => ?_⟩
    obtain ⟨hi, he⟩ := List.getElem?_eq_some_iff.1 hs
    rw [Nat.zero_add, h.cellAt i (by omega), List.getElem?_map, hs]
    rfl
theorem neq_text (s : ByteArray) (W : World) : (binOp .neq 9 (.string s) (.string s)).run Tryz.prog W = .ok (.bool false) W := by
  simp [go_sem]
set_option maxRecDepth 100000 in
set_option maxHeartbeats 3200000 in
theorem sameTexts_one (va vb : Value) (la : List Bs) (w : World) (ha : SLst w va la) (hb : SLst w vb la) (hla : la.length ≤ 1048576) :
    Calls Tryz.prog 12 #[va, vb] w fun e w' => e = .returned (.bool true) ∧ Below w.heap.size w w' := by
  obtain ⟨a, b, off, cap, rfl, hA, hI⟩ := ha
  obtain ⟨a2, b2, off2, cap2, rfl, hA2, hI2⟩ := hb
  have HA := hide hA
  have HI := hide hI
  have HA2 := hide hA2
  have HI2 := hide hI2
  obtain ⟨N, hN⟩ : ∃ N, N = la.length := ⟨_, rfl⟩
  have HN := hide hN
  rw [← hN]
  have l0 : (N : Int) ≤ 1048576 := by omega
  clear hN hA hI hA2 hI2 hla
  go_enter Tryz.func12, Tryz.ntmps12
  go_wp2_with fail
  go_loopw [5] (fun i wr => ∃ k : Nat, k ≤ N ∧ i = .int .i64 (k : Int) ∧ Hid (Below w.heap.size w wr)) (fun i _ => N - (intOf i).toNat)
  case atStart => exact ⟨0, by omega, rfl, Below.refl _ _⟩
  case round =>
    obtain ⟨k, hk, rfl, hh⟩ := hrel
    have HB := hide hh.out
    by_cases hlt : k < N
    · have j1 : (k : Int) < (N : Int) := by omega
      have j0 : (0 : Int) ≤ (k : Int) := by omega
      obtain ⟨x, hx⟩ : ∃ x, la[k]? = some x := ⟨_, List.getElem?_eq_getElem (by rw [← HN.out]; exact hlt)⟩
      obtain ⟨hbw, rfl⟩ := HA.out (by rw [← HN.out]; omega)
      obtain ⟨hbw2, rfl⟩ := HA2.out (by rw [← HN.out]; omega)
      have c0 := (HB.out.cell (p := ⟨b, off + k, none⟩) hbw).trans (HI.out k x hx)
      have d0 := (HB.out.cell (p := ⟨b2, off2 + k, none⟩) hbw2).trans (HI2.out k x hx)
      generalize (⟨x.toArray⟩ : ByteArray) = T at *
      have hq := neq_text
      clear hx hh
      go_wp2
      go_quiet (fail)
      go_wp2
      go_roundw
      case rel => exact ⟨k + 1, by omega, by go_num, below_drawn HB.out _⟩
      case measure => simp [intOf]; omega
    · clear hh
      go_wp2
      go_ret
      exact ⟨rfl, HB.out⟩
end Go.Proofs.YtkicbmjjbnblfaaGreatDoor
