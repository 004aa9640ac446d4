/- The contracts of the document's Bytes and Encode. -/
import Derived.Test.YtmbgcpmapaedcaaGreatDoorMg42
namespace Go.Proofs.YtmbgcpmapaedcaaGreatDoor.Wi
open Go.RowKit
theorem may_at {l : List It} (hm : allMay l = true) {k : Nat} {x : It} (h : l[k]? = some x) : mayB x = true := by
  cases hb : mayB x with
  | true => rfl
  | false => have h2 := allMay_false l k x h hb; rw [hm] at h2; exact absurd h2 (by decide)
theorem two_cells (n : Nat) (h : n ≤ 65535) : (two n).map encB = [.int .u8 ((n : Int) / 256), .int .u8 ((n : Int) % 256)] := by
  show [encB (UInt8.ofNat (n / 256)), encB (UInt8.ofNat (n % 256))] = _
  unfold encB
  rw [byte_of, byte_of, show n / 256 % 256 = n / 256 from by omega, show n % 256 % 256 = n % 256 from by omega]
  simp
theorem lit_two (w : World) (x y : Value) : (w.alloc (.cells #[x, y] 5)).ownsRow w.heap.size 5 1 (.slice (some ⟨w.heap.size, 0, none⟩) 2 2) 2 [x, y] :=
  World.ownsRow_lit (base := w.heap.size) (e := 5) (size := 1) w #[x, y] 2 (Nat.le_refl _) (by unfold maxLen; omega) rfl
set_option maxRecDepth 100000 in
set_option maxHeartbeats 1600000 in
theorem bytes_any (v : Value) (l : List It) (w : World) (hL : Lst w v l) (hlen : l.length ≤ 1000) (hm : allMay l = true) :
    Calls Tryz.prog 56 #[v] w fun e w' => (∃ t : ByteArray, e = .returned (.string t) ∧ t.size ≤ 200000 ∧ ((bytesB l).length ≤ 65536 → t.data.toList = bytesB l) ∧ (65536 < (bytesB l).length → 65536 < t.size)) ∧ Below w.heap.size w w' := by
  obtain ⟨i0, hi, hz0, hz1, hz2⟩ := info_parts in5
  obtain ⟨a, b, off, cap, rfl, hA, hI⟩ := hL
  have HA := hide hA
  have HI := hide hI
  have HM := hide hm
  have HT := hide (two_cells l.length (by omega))
  have HBl : Hid (bytesB l = two l.length ++ bodyB l) := rfl
  obtain ⟨N, hN⟩ : ∃ N, N = l.length := ⟨_, rfl⟩
  have HN := hide hN
  rw [← hN] at hlen HT HBl ⊢
  have n1 : (N : Int) ≤ 1000 := by omega
  have n0 : (0 : Int) ≤ (N : Int) := by omega
  clear hN hA hI hm
  go_enter Tryz.func56, Tryz.ntmps56
  go_wp2_with fail
  go_loopw [3, 4] (fun bv i wr => ∃ (k : Nat) (b' : Value), k ≤ N ∧ i = .int .i64 k ∧ b' = bv ∧ 2 + (bodyB (l.take k)).length ≤ 150000 ∧ wr.ownsRow w.heap.size 5 1 b' (2 + (bodyB (l.take k)).length) ((two N ++ bodyB (l.take k)).map encB) ∧ Below w.heap.size w wr) (fun _ i _ => N - (intOf i).toNat)
  case atStart => exact ⟨0, _, by omega, rfl, rfl, by simp [bodyB], by
    have h := lit_two w (.int .u8 ((N : Int) / 256)) (.int .u8 ((N : Int) % 256))
    show World.ownsRow _ w.heap.size 5 1 _ 2 ((two N ++ []).map encB)
    rw [List.append_nil, HT.out]; exact h, (Below.refl _ _).alloc (Nat.le_refl _) _⟩
  case round =>
    obtain ⟨k, bv, hk, rfl, rfl, hbd, hown, hbel⟩ := hrel
    obtain ⟨g, c, rfl, hgb, hgl⟩ := hown.form (by omega)
    have OO := hide hown
    have BB := hide hbel
    have hwr := hbel.size
    clear hown hbel
    have HBD := hide hbd
    by_cases hgo : k < N ∧ 2 + (bodyB (l.take k)).length ≤ 65536
    · obtain ⟨hlt, hle⟩ := hgo
      have j1 : (k : Int) < (N : Int) := by omega
      have j0 : (0 : Int) ≤ (k : Int) := by omega
      obtain ⟨x, hx⟩ : ∃ x, l[k]? = some x := ⟨_, List.getElem?_eq_getElem (by rw [← HN.out]; exact hlt)⟩
      obtain ⟨hbw, rfl⟩ := HA.out (by rw [← HN.out]; omega)
      obtain ⟨q0, q1, q2⟩ := HI.out k x hx
      have c0 := (BB.out.cell (p := ⟨b, off + k * 3, none⟩) hbw).trans q0
      have c1 := (BB.out.cell (p := ⟨b, off + k * 3 + 1, none⟩) hbw).trans q1
      have c2 := (BB.out.cell (p := ⟨b, off + k * 3 + 2, none⟩) hbw).trans q2
      have hmx := may_at HM.out hx
      have m1 := fun W => one_any x hmx W
      have hob := oneB_length x
      have hib := ib_le hmx
      have HTK := hide (bodyB_take l k x hx)
      have HSZ : Hid ((⟨(oneB x).toArray⟩ : ByteArray).size = (oneB x).length) := list_size _
      have HSC : Hid (Lib.strCells ⟨(oneB x).toArray⟩ = (oneB x).map encB) := rfl
      unfold itA at m1
      generalize (⟨(oneB x).toArray⟩ : ByteArray) = u at *
      obtain ⟨L, hLL⟩ : ∃ L, L = 2 + (bodyB (l.take k)).length := ⟨_, rfl⟩
      have HLL := hide hLL
      rw [← hLL] at hle OO ⊢
      have j3 : (L : Int) ≤ 65536 := by omega
      clear q0 q1 q2 hx hmx hLL hbd HBD
      have hus : u.size ≤ 65538 := by rw [HSZ.out]; omega
      clear hob hib
      go_wp2_with fail
      refine (m1 _).mono ?_
      rintro e w1 ⟨rfl, hb1⟩
      have B1 : Hid (Below w.heap.size w w1) := BB.out.trans (hb1.mono hwr)
      have O1 := hide (owns_below OO.out hb1)
      have z1 := B1.out.size
      clear hb1 m1 c0 c1 c2 OO BB
      go_wp2_with (at_builtin; go_must (refine Lib.wpList_append_own_string _ (by rfl) _ _ 78 9 (by rfl) w.heap.size 5 i0 Tryz.underlying78 Tryz.underlying9 hi hz0 hz1 hz2 _ L _ (by rfl) O1.out u (by rfl) (by unfold maxLen; omega) (by omega) (by omega) ?_; intro v3 w3 hown3 hgrow3 hnil3))
      go_roundw
      case rel =>
        refine ⟨k + 1, _, by omega, by go_num, rfl, ?_, ?_, B1.out.grown hgrow3 z1 (fun r hr => (O1.out.lt r hr).1)⟩
        · rw [HTK.out, List.length_append, ← HSZ.out]; have := HLL.out; omega
        · rw [HTK.out, List.length_append, ← Nat.add_assoc, ← HLL.out, ← HSZ.out, ← List.append_assoc, List.map_append, ← HSC.out]
          exact hown3
      case measure => simp [intOf]; omega
    · have hconv := run_convert_bytes_back (P := Tryz.prog) wr 78 9 5 ⟨g, 0, none⟩ c (two N ++ bodyB (l.take k)) Tryz.underlying78 Tryz.underlying5 Tryz.underlying9 (fun i hi => by
        rw [addr_add, OO.out.cellAt i (by rw [List.length_append, two_length] at hi; omega), List.getElem?_map, List.getElem?_eq_getElem hi]; rfl)
      rw [List.length_append, two_length] at hconv
      have hres : Hid ((⟨(two N ++ bodyB (l.take k)).toArray⟩ : ByteArray).size ≤ 200000 ∧ ((bytesB l).length ≤ 65536 → (⟨(two N ++ bodyB (l.take k)).toArray⟩ : ByteArray).data.toList = bytesB l) ∧ (65536 < (bytesB l).length → 65536 < (⟨(two N ++ bodyB (l.take k)).toArray⟩ : ByteArray).size)) := by
        have e1 : (⟨(two N ++ bodyB (l.take k)).toArray⟩ : ByteArray).size = 2 + (bodyB (l.take k)).length := by rw [list_size, List.length_append, two_length]
        have e2 : (bytesB l).length = 2 + (bodyB l).length := bytesB_length l
        have e3 := body_mono l k
        refine ⟨by omega, fun h => ?_, fun h => ?_⟩
        · have hkN : k = N := by
            rcases Nat.lt_or_ge k N with h1 | h1
            · exact absurd ⟨h1, by omega⟩ hgo
            · omega
          show two N ++ bodyB (l.take k) = _
          rw [hkN, List.take_of_length_le (by rw [HN.out]; exact Nat.le_refl _), HBl.out]
        · rcases Nat.lt_or_ge k N with h1 | h1
          · have : ¬ 2 + (bodyB (l.take k)).length ≤ 65536 := fun h2 => hgo ⟨h1, h2⟩
            omega
          · have e4 : (bodyB (l.take k)).length = (bodyB l).length := by rw [List.take_of_length_le (by rw [← HN.out]; omega)]
            omega
      generalize (⟨(two N ++ bodyB (l.take k)).toArray⟩ : ByteArray) = t at *
      obtain ⟨L, hLL⟩ : ∃ L, L = 2 + (bodyB (l.take k)).length := ⟨_, rfl⟩
      rw [← hLL] at hconv ⊢
      by_cases hlt : k < N
      · have j1 : (k : Int) < (N : Int) := by omega
        have j3 : ¬ (L : Int) ≤ 65536 := fun h => hgo ⟨hlt, by omega⟩
        clear hgo HBl hLL hbd HBD OO
        go_wp2
        go_ret
        exact ⟨⟨_, rfl, hres.out⟩, BB.out⟩
      · have j1 : ¬ (k : Int) < (N : Int) := by omega
        clear hgo HBl hLL hbd HBD OO
        go_wp2
        go_ret
        exact ⟨⟨_, rfl, hres.out⟩, BB.out⟩
set_option maxRecDepth 100000 in
set_option maxHeartbeats 3200000 in
theorem rencode_any (v : Value) (l : List It) (w : World) (hL : Lst w v l) (ho : okL l) :
    Calls Tryz.prog 24 #[v] w fun e w' => e = .returned (.tuple #[.string ⟨(encL l).toArray⟩, .int .i64 (encE l)]) ∧ Below w.heap.size w w' := by
  have HL := hide hL
  obtain ⟨a, b, off, cap, rfl, hA, hI⟩ := hL
  have hlen := ho.1
  have l0 : (l.length : Int) ≤ 4398046510976 := by omega
  by_cases h1 : 1000 < l.length
  · obtain ⟨e1, e2⟩ := encE_long h1
    rw [e1, e2]
    have i1 : (1000 : Int) < (l.length : Int) := by omega
    clear e1 e2 hA hI ho h1 hlen HL
    generalize l.length = N at *
    go_enter Tryz.func24, Tryz.ntmps24
    go_wp2
    go_ret2
    exact ⟨rfl, Below.refl _ _⟩
  have HA := hide hA
  have HI := hide hI
  have ES := hide (@encE_shape l h1)
  have EB := hide (@encE_big l h1)
  have EF := hide (@encE_fine l h1)
  have CB : Hid (∀ W, Lst W (.slice a l.length cap) l → allMay l = true → Calls Tryz.prog 56 #[.slice a l.length cap] W fun e w' => (∃ t : ByteArray, e = .returned (.string t) ∧ t.size ≤ 200000 ∧ ((bytesB l).length ≤ 65536 → t.data.toList = bytesB l) ∧ (65536 < (bytesB l).length → 65536 < t.size)) ∧ Below W.heap.size W w') := fun W h1' h2' => bytes_any _ l W h1' (by omega) h2'
  have HBL := hide (bytesB_length l)
  have HBd : Hid (bytesB l = two l.length ++ bodyB l) := rfl
  obtain ⟨N, hN⟩ : ∃ N, N = l.length := ⟨_, rfl⟩
  have HN := hide hN
  rw [← hN] at h1 hlen l0 HL CB ⊢
  have i1 : ¬ (1000 : Int) < (N : Int) := by omega
  clear hN hA hI ho hlen l0
  go_enter Tryz.func24, Tryz.ntmps24
  go_wp2_with fail
  go_loopw [4] (fun i wr => ∃ k : Nat, k ≤ N ∧ i = .int .i64 k ∧ allMay (l.take k) = true ∧ Below w.heap.size w wr) (fun i _ => N - (intOf i).toNat)
  case atStart => exact ⟨0, by omega, rfl, rfl, Below.refl _ _⟩
  case round =>
    obtain ⟨k, hk, rfl, ham, hbel⟩ := hrel
    have HB := hide hbel
    have HM := hide ham
    clear hbel ham
    by_cases hlt : k < N
    · have j1 : (k : Int) < (N : Int) := by omega
      have j0 : (0 : Int) ≤ (k : Int) := by omega
      obtain ⟨x, hx⟩ : ∃ x, l[k]? = some x := ⟨_, List.getElem?_eq_getElem (by rw [← HN.out]; exact hlt)⟩
      obtain ⟨hbw, rfl⟩ := HA.out (by rw [← HN.out]; omega)
      obtain ⟨q0, q1, q2⟩ := HI.out k x hx
      have c0 := (HB.out.cell (p := ⟨b, off + k * 3, none⟩) hbw).trans q0
      have c1 := (HB.out.cell (p := ⟨b, off + k * 3 + 1, none⟩) hbw).trans q1
      have c2 := (HB.out.cell (p := ⟨b, off + k * 3 + 2, none⟩) hbw).trans q2
      have m1 := fun W => may_any x W
      have HX := hide hx
      clear q0 q1 q2 hx
      unfold itA at m1
      go_wp2_with fail
      refine (m1 _).mono ?_
      rintro e w1 ⟨rfl, hb1⟩
      have B1 : Hid (Below w.heap.size w w1) := HB.out.trans (hb1.mono HB.out.size)
      clear hb1 m1 c0 c1 c2 HB
      cases hmx : mayB x with
      | false =>
        have E := hide (ES.out (allMay_false l k x HX.out hmx))
        clear hmx EB EF ES CB
        go_wp2
        go_ret2
        exact ⟨by rw [E.out.1, E.out.2]; rfl, B1.out⟩
      | true =>
        have HMT : Hid (allMay (l.take (k + 1)) = true) := by
          show _ = _
          rw [allMay_take l k x HX.out, HM.out, hmx]; rfl
        clear hmx HM EB EF ES CB
        go_wp2
        go_roundw
        case rel => exact ⟨k + 1, by omega, by go_num, HMT.out, B1.out⟩
        case measure => simp [intOf]; omega
    · obtain rfl : k = N := by omega
      have htk : l.take k = l := List.take_of_length_le (by rw [HN.out]; exact Nat.le_refl _)
      have HM2 := HM.out
      rw [htk] at HM2
      have c1 := CB.out wr (HL.out.below HB.out (Nat.le_refl _)) HM2
      clear htk HM ES CB
      have HM3 := hide HM2
      clear HM2
      go_wp2_with fail
      refine c1.mono ?_
      rintro e w1 ⟨⟨t, rfl, ht1, ht2, ht3⟩, hb1⟩
      have B1 : Hid (Below w.heap.size w w1) := HB.out.trans (hb1.mono HB.out.size)
      clear hb1 c1 HB
      by_cases hbig : 65536 < (bytesB l).length
      · have E := hide (EB.out HM3.out (by rw [← HBL.out]; exact hbig))
        have i6 : (65536 : Int) < (t.size : Int) := by have := ht3 hbig; omega
        clear EB EF ht1 ht2 ht3 hbig
        go_wp2
        go_ret2
        exact ⟨by rw [E.out.1, E.out.2]; rfl, B1.out⟩
      · have E := hide (EF.out HM3.out (by rw [← HBL.out]; exact hbig))
        have htx := ht2 (by omega)
        have i6 : ¬ (65536 : Int) < (t.size : Int) := by rw [← text_len, htx]; omega
        have HTt : Hid (t = ⟨(encL l).toArray⟩) := text_ext (by rw [htx, E.out.2, HBd.out])
        clear EB EF ht1 ht2 ht3 hbig htx
        go_wp2
        go_ret2
        exact ⟨by rw [E.out.1, ← HTt.out]; rfl, B1.out⟩
end Go.Proofs.YtmbgcpmapaedcaaGreatDoor.Wi
