/- The contract of wire.Encode. -/
import Derived.Test.YtmbgcpmapaedcaaDoorMg19
import Derived.Laws.IdiomStrings
namespace Go.Proofs.YtmbgcpmapaedcaaDoor.Wi
open Go.RowKit
set_option maxRecDepth 100000 in
set_option maxHeartbeats 3200000 in
theorem encode_any (v : Value) (l : List It) (w : World) (hL : Lst w v l) (ho : okL l) :
    Calls Tryd.prog 18 #[v] w fun e w' => e = .returned (.tuple #[.string ⟨(encL l).toArray⟩, .int .i64 (encE l)]) ∧ Below w.heap.size w w' := by
  obtain ⟨a, b, off, cap, rfl, hA, hI⟩ := hL
  have hlen := ho.1
  have l0 : (l.length : Int) ≤ 4398046510976 := by omega
  by_cases h1 : 1000 < l.length
  · obtain ⟨e1, e2⟩ := encE_long h1
    rw [e1, e2]
    have i1 : (1000 : Int) < (l.length : Int) := by omega
    clear e1 e2 hA hI ho h1 hlen
    generalize l.length = N at *
    go_enter Tryd.func18, Tryd.ntmps18
    go_wp2
    go_ret2
    exact ⟨rfl, Below.refl _ _⟩
  have HA := hide hA
  have HI := hide hI
  have ES := hide (@encE_shape l h1)
  have EB := hide (@encE_big l h1)
  have EF := hide (@encE_fine l h1)
  obtain ⟨N, hN⟩ : ∃ N, N = l.length := ⟨_, rfl⟩
  have HN := hide hN
  rw [← hN] at h1 hlen l0 ⊢
  have i1 : ¬ (1000 : Int) < (N : Int) := by omega
  clear hN hA hI ho hlen l0
  go_enter Tryd.func18, Tryd.ntmps18
  go_wp2_with fail
  go_loopw [4, 15] (fun sz i wr => ∃ k : Nat, k ≤ N ∧ i = .int .i64 k ∧ sz = .int .i64 (2 + ((bodyB (l.take k)).length : Int)) ∧ allMay (l.take k) = true ∧ Below w.heap.size w wr) (fun _ i _ => N - (intOf i).toNat)
  case atStart => exact ⟨0, by omega, rfl, rfl, rfl, Below.refl _ _⟩
  case round =>
    obtain ⟨k, hk, rfl, rfl, ham, hbel⟩ := hrel
    have HB := hide hbel
    have HM := hide ham
    clear hbel ham
    by_cases hlt : k < N
    · have j1 : (k : Int) < (N : Int) := by omega
      have j0 : (0 : Int) ≤ (k : Int) := by omega
      obtain ⟨x, hx⟩ : ∃ x, l[k]? = some x := ⟨_, List.getElem?_eq_getElem (by rw [← HN.out]; exact hlt)⟩
      obtain ⟨hbw, rfl⟩ := HA.out (by rw [← HN.out]; omega)
      obtain ⟨q0, q1, q2⟩ := HI.out k x hx
      have c0 := (HB.out.cell (p := ⟨b, off + k * 3, none⟩) hbw).trans q0
      have c1 := (HB.out.cell (p := ⟨b, off + k * 3 + 1, none⟩) hbw).trans q1
      have c2 := (HB.out.cell (p := ⟨b, off + k * 3 + 2, none⟩) hbw).trans q2
      have m1 := fun W => mayBe_any x W
      have HX := hide hx
      clear q0 q1 q2 hx
      unfold itA at m1
      go_wp2_with fail
      refine (m1 _).mono ?_
      rintro e w1 ⟨rfl, hb1⟩
      have B1 : Hid (Below w.heap.size w w1) := (HB.out.alloc HB.out.size _).trans (hb1.mono (by have := HB.out.size; simp; omega))
      have d0 : w1.cell? ⟨wr.heap.size, 0, none⟩ = some (.bool x.t) := (hb1.cell (p := ⟨wr.heap.size, 0, none⟩) (by simp)).trans (by simp)
      have d1 : w1.cell? ⟨wr.heap.size, 1, none⟩ = some (.int .i64 x.n) := (hb1.cell (p := ⟨wr.heap.size, 1, none⟩) (by simp)).trans (by simp)
      have d2 : w1.cell? ⟨wr.heap.size, 2, none⟩ = some (.string x.s) := (hb1.cell (p := ⟨wr.heap.size, 2, none⟩) (by simp)).trans (by simp)
      clear hb1 m1 c0 c1 c2 HB
      cases hmx : mayB x with
      | false =>
        have E := hide (ES.out (allMay_false l k x HX.out hmx))
        clear hmx d0 d1 d2 EB EF ES
        go_wp2
        go_ret2
        exact ⟨by rw [E.out.1, E.out.2]; rfl, B1.out⟩
      | true =>
        have m2 := fun W => itemBytes_any x (by have := may_size hmx; omega) W
        have hib := ib_le hmx
        have HT := hide (bodyB_take l k x HX.out)
        have HMT : Hid (allMay (l.take (k + 1)) = true) := by
          show _ = _
          rw [allMay_take l k x HX.out, HM.out, hmx]; rfl
        have hbl := body_le (l.take k) HM.out
        rw [List.length_take] at hbl
        have hbl2 : (bodyB (l.take k)).length ≤ 65538 * 1000 := by omega
        have HIB : Hid ((oneB x).length = ib x) := oneB_length x
        have HS : Hid ((2 + ((bodyB (l.take (k + 1))).length : Int)) = (2 + ((bodyB (l.take k)).length : Int)) + (ib x : Int)) := by
          show _ = _
          rw [HT.out, List.length_append, HIB.out]; omega
        unfold itA at m2
        have i5 : (2 + ((bodyB (l.take k)).length : Int)) ≤ 100000000 := by omega
        have i6 : (0 : Int) ≤ (2 + ((bodyB (l.take k)).length : Int)) := by omega
        have i7 : (ib x : Int) ≤ 65538 := by omega
        have i8 : (0 : Int) ≤ (ib x : Int) := by omega
        generalize (2 + ((bodyB (l.take k)).length : Int)) = S at *
        generalize (ib x : Int) = Y at *
        clear hbl hbl2 hib HT hmx HM HIB EB EF ES
        go_wp2_with fail
        refine (m2 _).mono ?_
        rintro e w2 ⟨rfl, hb2⟩
        have B2 : Hid (Below w.heap.size w w2) := B1.out.trans (hb2.mono B1.out.size)
        clear hb2 m2 d0 d1 d2 B1
        go_wp2
        go_roundw
        case rel => exact ⟨k + 1, by omega, by go_num, by rw [HS.out], HMT.out, B2.out⟩
        case measure => simp [intOf]; omega
    · obtain rfl : k = N := by omega
      have htk : l.take k = l := List.take_of_length_le (by rw [HN.out]; exact Nat.le_refl _)
      have HM2 := HM.out
      rw [htk] at HM2 ⊢
      have hbl := body_le l HM2
      rw [← HN.out] at hbl
      have i5 : (2 + ((bodyB l).length : Int)) ≤ 100000000 := by omega
      clear htk HM ES
      by_cases hbig : 65536 < 2 + (bodyB l).length
      · have E := hide (EB.out HM2 hbig)
        have i6 : (65536 : Int) < (2 + ((bodyB l).length : Int)) := by omega
        generalize (2 + ((bodyB l).length : Int)) = S at *
        clear EB EF hbl hbig HM2
        go_wp2
        go_ret2
        exact ⟨by rw [E.out.1, E.out.2]; rfl, HB.out⟩
      · have E : Hid (encE l = 0 ∧ encL l = two k ++ bodyB l) := by
          have h := EF.out HM2 hbig
          rw [← HN.out] at h; exact h
        have i6 : ¬ (65536 : Int) < (2 + ((bodyB l).length : Int)) := by omega
        clear EB EF
        have HM3 := hide HM2
        obtain ⟨Z, hZ⟩ : ∃ Z, Z = 2 + (bodyB l).length := ⟨_, rfl⟩
        have HZ := hide hZ
        have hZ2 : 2 + ((bodyB l).length : Int) = (Z : Int) := by omega
        rw [hZ2] at i5 i6 ⊢
        have z0 : Z ≤ 65536 := by omega
        clear hZ hZ2 hbl HM2
        obtain ⟨i0, hi, hz0, hz1, hz2⟩ := info_parts in5
        have hmk : ∀ u : World, (Instr.makeSlice 61 (.int .i64 0) (.int .i64 (Z : Int))).run Tryd.prog u =
            .ok (.slice (some ⟨u.heap.size, 0, none⟩) 0 Z) (u.alloc (.cells (madeCells #[.int .u8 0] Z) 5)) := fun u => by
          have h := run_make (P := Tryd.prog) u 61 5 i0 (.int .u8 0) Tryd.underlying61 hi hz0 .i64 .i64 0 (Z : Int) (by omega) (by omega) (by rw [hz2]; omega) (by omega)
          simpa [hz1, Value.cells] using h
        have hMs : (madeCells #[.int .u8 0] Z).size = Z * 1 := by simp [madeCells]
        generalize madeCells #[Value.int .u8 0] Z = M at *
        have hst : (wr.alloc (.cells M 5)).ownsRow w.heap.size 5 1 (.slice (some ⟨wr.heap.size, 0, none⟩) 0 Z) 0 [] :=
          World.ownsRow_made wr _ _ HB.out.size (by unfold maxLen; omega) hMs
        have cp := appendPair_any w.heap.size _ 0 k [] _ hst (by have := HB.out.size; simp; omega) (by omega) (by omega)
        have HST := hide hst
        have zr := HB.out.size
        clear hst
        go_wp2_with fail
        refine cp.mono ?_
        rintro e w1 ⟨v1, rfl, happ⟩
        have B1 : Hid (Below w.heap.size w w1) := happ.below (HB.out.alloc zr _) (by simp; omega) (fun r hr => (HST.out.lt r hr).1)
        have O1 : Hid (w1.ownsRow w.heap.size 5 1 v1 (2 + (bodyB (l.take 0)).length) ((two k ++ bodyB (l.take 0)).map encB)) := by
          have h := happ.own
          show w1.ownsRow w.heap.size 5 1 v1 2 ((two k ++ []).map encB)
          rw [List.append_nil]; exact h
        clear happ cp HST hmk HB
        go_wp2_with fail
        go_loopw [7, 36] (fun bv i wx => ∃ (j : Nat) (b' : Value), j ≤ k ∧ i = .int .i64 j ∧ b' = bv ∧ wx.ownsRow w.heap.size 5 1 b' (2 + (bodyB (l.take j)).length) ((two k ++ bodyB (l.take j)).map encB) ∧ Below w.heap.size w wx) (fun _ i _ => k - (intOf i).toNat)
        case atStart => exact ⟨0, _, by omega, rfl, rfl, O1.out, B1.out⟩
        case round =>
          clear O1 B1
          obtain ⟨j, bv, hj, rfl, rfl, hown, hbel⟩ := hrel
          have OO := hide hown
          have BB := hide hbel
          clear hown hbel
          by_cases hlt : j < k
          · have j1 : (j : Int) < (k : Int) := by omega
            have j0 : (0 : Int) ≤ (j : Int) := by omega
            obtain ⟨x, hx⟩ : ∃ x, l[j]? = some x := ⟨_, List.getElem?_eq_getElem (by rw [← HN.out]; exact hlt)⟩
            obtain ⟨hbw, rfl⟩ := HA.out (by rw [← HN.out]; omega)
            obtain ⟨q0, q1, q2⟩ := HI.out j x hx
            have c0 := (BB.out.cell (p := ⟨b, off + j * 3, none⟩) hbw).trans q0
            have c1 := (BB.out.cell (p := ⟨b, off + j * 3 + 1, none⟩) hbw).trans q1
            have c2 := (BB.out.cell (p := ⟨b, off + j * 3 + 2, none⟩) hbw).trans q2
            have hmx : mayB x = true := by
              have h := allMay_take l j x hx
              cases hb : mayB x with
              | true => rfl
              | false => have h2 := allMay_false l j x hx hb; rw [HM3.out] at h2; exact absurd h2 (by decide)
            have hmo := body_mono l j
            have hbz : 2 + (bodyB (l.take j)).length ≤ 65536 := by have := HZ.out; omega
            have hwr := BB.out.size
            have m1 := appendItem_any w.heap.size bv (2 + (bodyB (l.take j)).length) x _ (wr.alloc (.cells #[.bool x.t, .int .i64 x.n, .string x.s] 58)) (OO.out.alloc _) (by simp; omega) (by omega) (may_size hmx)
            rw [← List.map_append, List.append_assoc, ← bodyB_take l j x hx, Nat.add_assoc, ← oneB_length, ← List.length_append, ← bodyB_take l j x hx] at m1
            unfold itA at m1
            clear q0 q1 q2 hx hmo hbz hmx
            go_wp2_with fail
            refine m1.mono ?_
            rintro e w3 ⟨v3, rfl, ho3, hb3⟩
            have O3 := hide ho3
            have B3 : Hid (Below w.heap.size w w3) := (BB.out.alloc hwr _).trans hb3
            clear ho3 hb3 m1 c0 c1 c2 OO BB
            go_wp2
            go_roundw
            case rel => exact ⟨j + 1, _, by omega, by go_num, rfl, O3.out, B3.out⟩
            case measure => simp [intOf]; omega
          · obtain rfl : j = k := by omega
            have htk : l.take j = l := List.take_of_length_le (by rw [HN.out]; exact Nat.le_refl _)
            have ho := OO.out
            rw [htk] at ho
            obtain ⟨g8, cap8, rfl, _, _⟩ := ho.form (by omega)
            have hconv := run_convert_bytes_back (P := Tryd.prog) wr 61 9 5 ⟨g8, 0, none⟩ cap8 (two j ++ bodyB l) Tryd.underlying61 Tryd.underlying5 Tryd.underlying9 (fun i hi => by
              rw [addr_add, ho.cellAt i (by rw [List.length_append, two_length] at hi; omega), List.getElem?_map, List.getElem?_eq_getElem hi]; rfl)
            rw [List.length_append, two_length] at hconv
            clear ho htk OO
            go_wp2
            go_ret2
            exact ⟨by rw [E.out.1, E.out.2]; rfl, BB.out⟩
end Go.Proofs.YtmbgcpmapaedcaaDoor.Wi
