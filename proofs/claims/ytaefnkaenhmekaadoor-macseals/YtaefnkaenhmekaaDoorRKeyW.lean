/- The contracts of the document's fitted, with and Tag. -/
import Derived.Test.YtaefnkaenhmekaaDoorBackW
import Derived.Test.YtaefnkaenhmekaaDoorRSumX
namespace Go.Proofs.YtaefnkaenhmekaaDoor
open Go.RowKit
theorem ownsG.base {w : World} {base b : Nat} {v : Value} {n : Nat} {xs : List Value} (h : ownsG w base v n xs) (hb : b ≤ base) : ownsG w b v n xs := by
  obtain ⟨h1, g, cap, cur, fz, hv, hg, r⟩ := h
  exact ⟨h1, g, cap, cur, fz, hv, Nat.le_trans hb hg, r⟩
theorem ownsG.below {w w' : World} {base : Nat} {v : Value} {n : Nat} {xs : List Value} (h : ownsG w base v n xs) (hb : Below w.heap.size w w') : ownsG w' base v n xs := h.kept (fun k hk => hb.block k hk)
set_option maxRecDepth 100000 in
set_option maxHeartbeats 1600000 in
theorem rfitted_any (s : ByteArray) (hn : s.size ≤ 140737488355000) (w : World) :
    Calls Tryd.prog 19 #[.string s] w fun e w' => (∃ v, e = .returned v ∧ ownsG w' w.heap.size v 64 ((fitL s.data.toList).map encB)) ∧ Below w.heap.size w w' := by
  obtain ⟨i0, hi, hz0, hz1, hz2⟩ := info_parts in5
  have hfit : Hid (fitL s.data.toList = keyL s.data.toList ++ List.replicate (64 - (keyL s.data.toList).length) 0) := rfl
  by_cases hbig : 64 < s.size
  · have i1 : (64 : Int) < (s.size : Int) := by omega
    have hk : keyL s.data.toList = shaB s.data.toList := by unfold keyL; rw [if_pos (by rw [text_len]; exact hbig)]
    have hsum := fun W => rsum_any s hn W
    have hl : (shaB s.data.toList).length = 32 := shaB_length _
    rw [hk] at hfit
    generalize shaB s.data.toList = L at *
    have hS : (⟨L.toArray⟩ : ByteArray).size = L.length := list_size L
    have hconv := fun W => conv_own W ⟨L.toArray⟩ (by omega)
    have hD : (⟨L.toArray⟩ : ByteArray).data.toList = L := rfl
    rw [hD] at hconv
    generalize (⟨L.toArray⟩ : ByteArray) = t at *
    generalize fitL s.data.toList = f at *
    clear hk hD hbig
    obtain ⟨K, hK⟩ : ∃ K, K = L.length := ⟨_, rfl⟩
    have HK : Hid (K = L.length) := hK
    rw [← hK] at hl hS hfit
    have k64 : K ≤ 64 := by omega
    have kS : (t.size : Int) = (K : Int) := by omega
    clear hK hl
    rw [hS] at hconv
    clear hS
    go_enter Tryd.func19, Tryd.ntmps19
    go_wp2_with fail
    refine (hsum _).mono ?_
    rintro e w1 ⟨rfl, hb1⟩
    clear hsum
    have z1 := hb1.size
    obtain ⟨cap, W1, hcv, hown, hbel⟩ := hconv w1
    have HO : Hid (ownsG W1 w.heap.size (.slice (some ⟨w1.heap.size, 0, none⟩) K cap) K ((L ++ List.replicate (K - K) 0).map encB)) := by
      rw [Nat.sub_self]
      simp only [List.replicate_zero, List.append_nil]
      exact hown.base z1
    have HB : Hid (Below w.heap.size w W1) := hb1.trans (hbel.mono z1)
    clear hconv hown hbel hb1
    go_wp2_with fail
    go_loopw [3] (fun v wr => ∃ N : Nat, K ≤ N ∧ N ≤ 64 ∧ vlen v = N ∧ ownsG wr w.heap.size v N ((L ++ List.replicate (N - K) 0).map encB) ∧ Below w.heap.size w wr) (fun v _ => 64 - vlen v)
    case atStart => exact ⟨K, Nat.le_refl _, k64, rfl, HO.out, HB.out⟩
    case round =>
      clear HO HB
      obtain ⟨N, hN1, hN2, hv, hown, hbel⟩ := hrel
      obtain ⟨g, c, rfl, hg1, hg2, hg3⟩ := hown.form
      have zr := hbel.size
      clear hv
      by_cases hlt : N < 64
      · have j1 : (N : Int) < 64 := by omega
        have ho1 : ∀ ob, ownsG (wr.alloc ob) w.heap.size (.slice (some ⟨g, 0, none⟩) N c) N ((L ++ List.replicate (N - K) 0).map encB) := fun ob => hown.kept (fun k hk => heap_alloc_old _ _ hk)
        go_wp2_with (at_builtin; go_must (refine wpList_append_G _ (by rfl) _ _ 32 (by rfl) w.heap.size i0 Tryd.underlying32 hi hz0 hz1 hz2 _ N _ (by rfl) (ho1 _) ⟨wr.heap.size, 0, none⟩ 1 1 [.int .u8 0] (by rfl) rfl (World.news_of_block (cs := #[.int .u8 0]) (t := 5) (fr := (0, 0)) (heap_alloc_new wr _)) (by simp [Value.oneCell']) (by omega) (by simp; omega) ?_; intro v2 W2 hown2 hb2))
        have hb02 : Below w.heap.size w W2 := (hbel.alloc zr _).trans hb2
        have hv2 : vlen v2 = N + 1 := by obtain ⟨g, c, e, _⟩ := hown2.form; rw [e]; rfl
        refine ⟨⟨N + 1, by omega, by omega, hv2, ?_, hb02⟩, ?_⟩
        · rw [show N + 1 - K = (N - K) + 1 from by omega, List.replicate_succ', ← List.append_assoc, List.map_append]
          exact hown2
        · rw [hv2]; simp only [vlen]; omega
      · obtain rfl : N = 64 := by omega
        have HO : Hid (ownsG wr w.heap.size (.slice (some ⟨g, 0, none⟩) 64 c) 64 (f.map encB)) := by rw [hfit.out]; exact hown
        have HBe : Hid (Below w.heap.size w wr) := hbel
        clear hown hbel
        go_wp2
        go_ret
        exact ⟨⟨_, rfl, HO.out⟩, HBe.out⟩
  · have i1 : ¬ (64 : Int) < (s.size : Int) := by omega
    have hk : keyL s.data.toList = s.data.toList := by unfold keyL; rw [if_neg (by rw [text_len]; exact hbig)]
    rw [hk] at hfit
    have hconv := fun W => conv_own W s hn
    have hS := text_len s
    generalize fitL s.data.toList = f at *
    generalize s.data.toList = L at *
    clear hk
    obtain ⟨K, hK⟩ : ∃ K, K = s.size := ⟨_, rfl⟩
    rw [← hK] at hS hconv
    rw [hS] at hfit
    have k64 : K ≤ 64 := by omega
    obtain ⟨w1, hw1⟩ : ∃ w1, w1 = w := ⟨_, rfl⟩
    have hb1 : Below w.heap.size w w1 := by rw [hw1]; exact Below.refl _ _
    have z1 := hb1.size
    obtain ⟨cap, W1, hcv, hown, hbel⟩ := hconv w1
    have kS : (s.size : Int) = (K : Int) := by omega
    clear hK hS hbig hn
    subst hw1
    go_enter Tryd.func19, Tryd.ntmps19
    have HO : Hid (ownsG W1 w1.heap.size (.slice (some ⟨w1.heap.size, 0, none⟩) K cap) K ((L ++ List.replicate (K - K) 0).map encB)) := by
      rw [Nat.sub_self]
      simp only [List.replicate_zero, List.append_nil]
      exact hown.base z1
    have HB : Hid (Below w1.heap.size w1 W1) := hb1.trans (hbel.mono z1)
    clear hconv hown hbel hb1
    go_wp2_with fail
    go_loopw [3] (fun v wr => ∃ N : Nat, K ≤ N ∧ N ≤ 64 ∧ vlen v = N ∧ ownsG wr w1.heap.size v N ((L ++ List.replicate (N - K) 0).map encB) ∧ Below w1.heap.size w1 wr) (fun v _ => 64 - vlen v)
    case atStart => exact ⟨K, Nat.le_refl _, k64, rfl, HO.out, HB.out⟩
    case round =>
      clear HO HB
      obtain ⟨N, hN1, hN2, hv, hown, hbel⟩ := hrel
      obtain ⟨g, c, rfl, hg1, hg2, hg3⟩ := hown.form
      have zr := hbel.size
      clear hv
      by_cases hlt : N < 64
      · have j1 : (N : Int) < 64 := by omega
        have ho1 : ∀ ob, ownsG (wr.alloc ob) w1.heap.size (.slice (some ⟨g, 0, none⟩) N c) N ((L ++ List.replicate (N - K) 0).map encB) := fun ob => hown.kept (fun k hk => heap_alloc_old _ _ hk)
        go_wp2_with (at_builtin; go_must (refine wpList_append_G _ (by rfl) _ _ 32 (by rfl) w1.heap.size i0 Tryd.underlying32 hi hz0 hz1 hz2 _ N _ (by rfl) (ho1 _) ⟨wr.heap.size, 0, none⟩ 1 1 [.int .u8 0] (by rfl) rfl (World.news_of_block (cs := #[.int .u8 0]) (t := 5) (fr := (0, 0)) (heap_alloc_new wr _)) (by simp [Value.oneCell']) (by omega) (by simp; omega) ?_; intro v2 W2 hown2 hb2))
        have hb02 : Below w1.heap.size w1 W2 := (hbel.alloc zr _).trans hb2
        have hv2 : vlen v2 = N + 1 := by obtain ⟨g, c, e, _⟩ := hown2.form; rw [e]; rfl
        refine ⟨⟨N + 1, by omega, by omega, hv2, ?_, hb02⟩, ?_⟩
        · rw [show N + 1 - K = (N - K) + 1 from by omega, List.replicate_succ', ← List.append_assoc, List.map_append]
          exact hown2
        · rw [hv2]; simp only [vlen]; omega
      · obtain rfl : N = 64 := by omega
        have HO : Hid (ownsG wr w1.heap.size (.slice (some ⟨g, 0, none⟩) 64 c) 64 (f.map encB)) := by rw [hfit.out]; exact hown
        have HBe : Hid (Below w1.heap.size w1 wr) := hbel
        clear hown hbel
        go_wp2
        go_ret
        exact ⟨⟨_, rfl, HO.out⟩, HBe.out⟩
set_option maxRecDepth 100000 in
set_option maxHeartbeats 1600000 in
theorem rwith_any (m : UInt8) (f : List UInt8) (hf : f.length = 64) (b0 g cap : Nat) (w : World) (ho : ownsG w b0 (.slice (some ⟨g, 0, none⟩) 64 cap) 64 (f.map encB)) :
    Calls Tryd.prog 21 #[.slice (some ⟨g, 0, none⟩) 64 cap, .int .u8 (m.toNat : Int)] w fun e w' => e = .returned (.string ⟨(maskL m f).toArray⟩) ∧ Below w.heap.size w w' := by
  obtain ⟨i0, hi, hz0, hz1, hz2⟩ := info_parts in5
  obtain ⟨g1, c1, e1, _, hgl, hgc⟩ := ho.form
  injection e1 with e1 _ e2
  injection e1 with e1
  injection e1 with e1
  subst e1 e2
  have hcells : ∀ j (hj : j < 64), w.cell? ⟨g, j, none⟩ = some (.int .u8 ((f[j]'(by omega)).toNat : Int)) := fun j hj => by
    rw [ho.cell j hj, List.getElem?_map, List.getElem?_eq_getElem (by omega)]; rfl
  have HC : Hid (∀ j (hj : j < 64), w.cell? ⟨g, j, none⟩ = some (.int .u8 ((f[j]'(by omega)).toNat : Int))) := hcells
  have l64 : (64 : Int) ≤ (cap : Int) := by omega
  clear ho hcells
  go_enter Tryd.func21, Tryd.ntmps21
  go_wp2_with fail
  go_loopw [5, 6] (fun v i wr => ∃ k : Nat, k ≤ 64 ∧ i = .int .i64 k ∧ wr.ownsRow w.heap.size 5 1 v k ((maskL m (f.take k)).map encB) ∧ Below w.heap.size w wr) (fun _ i _ => 64 - (intOf i).toNat)
  case atStart => exact ⟨0, by omega, rfl, World.ownsRow_nil _ _ _ _, Below.refl _ _⟩
  case round =>
    obtain ⟨k, hk, rfl, hown, hbx⟩ := hrel
    have zx := hbx.size
    by_cases hlt : k < 64
    · have j0 : (0 : Int) ≤ (k : Int) := by omega
      have j1 : (k : Int) < 64 := by omega
      have hcell := (hbx.cell (p := ⟨g, k, none⟩) hgl).trans (HC.out k hlt)
      have hmk : maskL m (f.take (k + 1)) = maskL m (f.take k) ++ [f[k] ^^^ m] := by
        unfold maskL
        rw [List.take_succ_eq_append_getElem (by omega), List.map_append]; rfl
      generalize f[k] = c at *
      have hxy := xor8 c m
      have hml : (maskL m (f.take k)).length = k := by rw [maskL_length, List.length_take]; omega
      have HM : Hid (((maskL m (f.take (k + 1))).map encB) = (maskL m (f.take k)).map encB ++ [.int .u8 ((c ^^^ m).toNat : Int)]) := by unfold Hid; rw [hmk, List.map_append]; rfl
      generalize (c ^^^ m).toNat = y at *
      clear hmk
      go_wp2_with (at_builtin; go_must (refine wpList_append_lies _ (by rfl) _ _ _ (by rfl) w.heap.size 5 i0 _ 1 1 Tryd.underlying32 hi hz0 hz1 hz2 rfl (by omega) u5 k _ (by rfl) (hown.alloc _) ⟨wr.heap.size, 0, none⟩ 1 1 [.int .u8 (y : Int)] (by rfl) (by rfl) (World.news_of_block (cs := #[.int .u8 (y : Int)]) (t := 5) (fr := (0, 0)) (heap_alloc_new wr _)) (by simp [Value.oneCell']) (by omega) (by unfold maxLen; omega) (by omega) (by simp; omega) (wr.heap.size + 1) (by simp) ?_; intro gg cap' w1 hown1 hgrow hat hlt1))
      go_roundw
      case rel =>
        refine ⟨k + 1, by omega, by go_num, ?_, (hbx.alloc zx _).grown hgrow (by simp; omega) (fun r hr => (hown.lt r hr).1)⟩
        rw [HM.out]; exact hown1
      case measure => simp [intOf]; omega
    · obtain rfl : k = 64 := by omega
      obtain ⟨g8, cap8, rfl, _, _⟩ := hown.form (by omega)
      rw [List.take_of_length_le (by omega)] at hown
      have hll : (maskL m f).length = 64 := by rw [maskL_length, hf]
      have hconv := run_convert_bytes_back (P := Tryd.prog) wr 32 9 5 ⟨g8, 0, none⟩ cap8 (maskL m f) Tryd.underlying32 Tryd.underlying5 Tryd.underlying9 (fun j hj => by
        rw [addr_add, hown.cellAt j (by omega), List.getElem?_map, List.getElem?_eq_getElem hj]; rfl)
      rw [hll] at hconv
      have hB : Hid (Below w.heap.size w wr) := hbx
      clear hown hbx
      go_wp2
      go_ret
      exact ⟨rfl, hB⟩
end Go.Proofs.YtaefnkaenhmekaaDoor
