/- The walk of the law ShaPieces. -/
import Derived.Test.YtndpomcfoogchaaDoorWorks
import Derived.Test.YtndpomcfoogchaaDoorRSumX
import Derived.Test.YtndpomcfoogchaaDoorForkW
namespace Go.Proofs.YtndpomcfoogchaaDoor
open Go.RowKit
/-- the first k pieces, joined -/
def cat (pc : Nat → ByteArray) : Nat → List UInt8
  | 0 => []
  | k + 1 => cat pc k ++ (pc k).data.toList
theorem szl (s : ByteArray) : s.data.toList.length = s.size := by rw [Array.length_toList]; rfl
theorem HashIs.of_up {w w' : World} {g h : Nat} {l : List UInt8} (hH : HashIs w h l) (hU : Upd g w w') (hne : h ≠ g) : HashIs w' h l := by
  obtain ⟨tl, h1, h2⟩ := hH
  exact ⟨tl, h1.other (hU.block _ (lt_of_block h1.1) hne), h2⟩
set_option maxRecDepth 100000 in
set_option maxHeartbeats 3200000 in
theorem pieces_any (a : Option Addr) (b off len cap : Nat) (pc : Nat → ByteArray) (fork : Int) (w : World) (hTab : Tab w) (h0 : 0 < w.heap.size) (hb : 0 < len → b < w.heap.size) (hA : 0 < len → a = some ⟨b, off, none⟩)
    (hc : ∀ i, i < len → w.cell? ⟨b, off + i, none⟩ = some (.string (pc i))) (htot : ∀ k, k ≤ len → (cat pc k).length ≤ 1048576) (hlen : len ≤ 1048576) :
    Calls Tryd.prog 4 #[.slice a len cap, .int .i64 fork] w fun e w' => e = .returned (.bool true) ∧ Below w.heap.size w w' := by
  have HT : Hid (Tab w) := hTab
  have HC : Hid (∀ i, i < len → w.cell? ⟨b, off + i, none⟩ = some (.string (pc i))) := hc
  have HTot : Hid (∀ k, k ≤ len → (cat pc k).length ≤ 1048576) := htot
  have HA : Hid (0 < len → a = some ⟨b, off, none⟩) := hA
  clear hTab hc htot hA
  go_enter Tryd.func4, Tryd.ntmps4
  go_wp2_with fail
  refine (new_any _).mono ?_
  rintro e w1 ⟨rfl, hH1, hb1⟩
  have z1 := hb1.size
  have hw := works_any w1 (HT.out.below hb1 h0) (by omega)
  go_wp2_with fail
  refine hw.mono ?_
  rintro e w2 ⟨rfl, hb2⟩
  have hH2 := hH1.of_below hb2
  have b2 : Below w.heap.size w w2 := hb1.trans (hb2.mono z1)
  have HH : Hid (HashIs w2 w.heap.size []) := hH2
  have HB : Hid (Below w.heap.size w w2) := b2
  clear hH1 hb1 hb2 hH2 b2 hw z1
  go_wp2_with fail
  go_loopw [6, 7] (fun all i wr => ∃ (k : Nat) (T : ByteArray), k ≤ len ∧ k ≤ 60 ∧ i = .int .i64 k ∧ all = .string T ∧ Hid (T.data.toList = cat pc k) ∧ HashIs wr w.heap.size (cat pc k) ∧ Below w.heap.size w wr) (fun _ i _ => 60 - (intOf i).toNat)
  case atStart => exact ⟨0, _, by omega, by omega, rfl, rfl, rfl, HH.out, HB.out⟩
  case round =>
    clear HH HB
    obtain ⟨k, T, hk, hk60, rfl, rfl, hT, hH, hB⟩ := hrel
    by_cases hlt : k < len ∧ k < 60
    · obtain ⟨hl1, hl2⟩ := hlt
      obtain rfl := HA.out (by omega)
      have hbw := hb (by omega)
      have j0 : (0 : Int) ≤ (k : Int) := by omega
      have j1 : (k : Int) < (len : Int) := by omega
      have j2 : (k : Int) < 60 := by omega
      have hce := (hB.cell (p := ⟨b, off + k, none⟩) hbw).trans (HC.out k hl1)
      have hcw := HC.out k hl1
      have hTs : T.size = (cat pc k).length := by rw [← hT.out, szl]
      have hcs : (cat pc (k + 1)).length = (cat pc k).length + (pc k).size := by rw [cat, List.length_append, szl]
      have ht1 := HTot.out (k + 1) (by omega)
      have hwr := write_any w.heap.size h0 (cat pc k) (pc k) (by omega) wr (HT.out.below hB h0) hH
      have HC1 : Hid ((T ++ pc k).data.toList = cat pc (k + 1)) := by
        show (T ++ pc k).data.toList = cat pc k ++ (pc k).data.toList
        rw [← hT.out]
        simp [ByteArray.data_append]
      rw [show cat pc k ++ (pc k).data.toList = cat pc (k + 1) from rfl] at hwr
      have s1 : (T.size : Int) + ((pc k).size : Int) ≤ 1048576 := by omega
      have HBr : Hid (Below w.heap.size w wr) := hB
      clear hH hB
      generalize pc k = t at *
      go_wp2_with fail
      refine hwr.mono ?_
      rintro e w3 ⟨rfl, hH3, hU3⟩
      have b3 := hU3.below HBr.out (Nat.le_refl _) HBr.out.size
      have hce3 : w3.cell? ⟨b, off + k, none⟩ = some (.string t) := (b3.cell (p := ⟨b, off + k, none⟩) hbw).trans hcw
      have B3 : Hid (Below w.heap.size w w3) := b3
      have H3 : Hid (HashIs w3 w.heap.size (cat pc (k + 1))) := hH3
      have hlen3 := len_any w.heap.size (cat pc (k + 1)) w3 hH3
      have hTl : (cat pc (k + 1)).length = (T ++ t).size := by rw [← HC1.out, szl]
      have hTb : (T ++ t).size ≤ 1048576 := by rw [← hTl]; exact ht1
      rw [hTl] at hlen3
      have hq := fun W (hb : Below w.heap.size w W) (hH : HashIs W w.heap.size (cat pc (k + 1))) => hsum_any w.heap.size (cat pc (k + 1)) (by omega) W (HT.out.below hb h0) (by have := hb.size; omega) hH
      have hr := rsum_any (T ++ t) (by omega)
      rw [HC1.out] at hr
      clear b3 hH3 hU3 hwr hce hcw hcs ht1 hTl
      go_wp2_with fail
      refine hlen3.mono ?_
      rintro e w4 ⟨rfl, hw4⟩
      rw [hw4]
      clear hw4 hlen3 hce3
      generalize T ++ t = T2 at *
      have hot : Hid ((T2 ++ ⟨#[111, 116, 104, 101, 114]⟩).data.toList = cat pc (k + 1) ++ [111, 116, 104, 101, 114]) := by
        rw [← HC1.out]; simp [Hid, ByteArray.data_append]
      have hro := rsum_any (T2 ++ ⟨#[111, 116, 104, 101, 114]⟩) (by
        have e : (T2 ++ ⟨#[111, 116, 104, 101, 114]⟩).size = T2.size + 5 := by rw [ByteArray.size_append]; rfl
        omega)
      rw [hot.out] at hro
      have hT2c : (cat pc (k + 1)).length ≤ 1048576 := HTot.out (k + 1) (by omega)
      have hwo := fun g2 (hg2 : 0 < g2) W (hb : Below w.heap.size w W) (hH : HashIs W g2 (cat pc (k + 1))) => write_any g2 hg2 (cat pc (k + 1)) ⟨#[111, 116, 104, 101, 114]⟩ (by show _ + 5 ≤ _; omega) W (HT.out.below hb h0) hH
      have hqo := fun g2 W (hb : Below w.heap.size w W) (hH : HashIs W g2 (cat pc (k + 1) ++ [111, 116, 104, 101, 114])) => hsum_any g2 (cat pc (k + 1) ++ [111, 116, 104, 101, 114]) (by rw [List.length_append]; show _ + 5 < _; omega) W (HT.out.below hb h0) (by have := hb.size; omega) hH
      have HWO : Hid (∀ g2 (_ : 0 < g2) W (_ : Below w.heap.size w W) (_ : HashIs W g2 (cat pc (k + 1))), Calls Tryd.prog 14 #[.pointer (some ⟨g2, 0, none⟩), .string ⟨#[111, 116, 104, 101, 114]⟩] W fun e w' => e = .returned (.int .i64 0) ∧ HashIs w' g2 (cat pc (k + 1) ++ [111, 116, 104, 101, 114]) ∧ Upd g2 W w') := hwo
      generalize (⟨(shaB (cat pc (k + 1) ++ [111, 116, 104, 101, 114])).toArray⟩ : ByteArray) = SO at *
      generalize (⟨(shaB (cat pc (k + 1))).toArray⟩ : ByteArray) = S at *
      clear hwo hot
      go_wp2_with fail
      refine (hq _ B3.out H3.out).mono ?_
      rintro e w4 ⟨rfl, hb4⟩
      have b4 := B3.out.trans (hb4.mono B3.out.size)
      have H4 : Hid (HashIs w4 w.heap.size (cat pc (k + 1))) := H3.out.of_below hb4
      have B4 : Hid (Below w.heap.size w w4) := b4
      clear hb4 b4 H3 B3
      go_wp2_with fail
      refine (hr _).mono ?_
      rintro e w5 ⟨rfl, hb5⟩
      have b5 := B4.out.trans (hb5.mono B4.out.size)
      have H5 : Hid (HashIs w5 w.heap.size (cat pc (k + 1))) := H4.out.of_below hb5
      have B5 : Hid (Below w.heap.size w w5) := b5
      clear hb5 b5 H4 B4
      go_wp2_with fail
      refine (hq _ B5.out H5.out).mono ?_
      rintro e w6 ⟨rfl, hb6⟩
      have b6 := B5.out.trans (hb6.mono B5.out.size)
      have H6 : Hid (HashIs w6 w.heap.size (cat pc (k + 1))) := H5.out.of_below hb6
      have B6 : Hid (Below w.heap.size w w6) := b6
      clear hb6 b6 H5 B5
      go_wp2_with fail
      refine (hr _).mono ?_
      rintro e w7 ⟨rfl, hb7⟩
      have b7 := B6.out.trans (hb7.mono B6.out.size)
      have H7 : Hid (HashIs w7 w.heap.size (cat pc (k + 1))) := H6.out.of_below hb7
      have B7 : Hid (Below w.heap.size w w7) := b7
      clear hb7 b7 H6 B6
      by_cases hfk : (k : Int) = fork
      · have hfb : ((k : Int) == fork) = true := by rw [beq_iff_eq]; exact hfk
        clear hfk
        go_wp2_with fail
        refine (fork_any w.heap.size _ w7 H7.out).mono ?_
        rintro e w8 ⟨rfl, hF8, hb8⟩
        have z8 := B7.out.size
        have b8 := B7.out.trans (hb8.mono z8)
        have H8 : Hid (HashIs w8 w.heap.size (cat pc (k + 1))) := H7.out.of_below hb8
        have B8 : Hid (Below w.heap.size w w8) := b8
        have F8 : Hid (HashIs w8 w7.heap.size (cat pc (k + 1))) := hF8
        have g1lt : w.heap.size < w7.heap.size := H7.out.lt
        clear hb8 b8 H7 B7 hF8
        generalize w7.heap.size = g2 at *
        go_wp2_with fail
        refine (HWO.out g2 (by omega) _ B8.out F8.out).mono ?_
        rintro e w9 ⟨rfl, hF9, hU9⟩
        have B9 : Hid (Below w.heap.size w w9) := hU9.below B8.out z8 B8.out.size
        have H9 : Hid (HashIs w9 w.heap.size (cat pc (k + 1))) := H8.out.of_up hU9 (by omega)
        have F9 : Hid (HashIs w9 g2 (cat pc (k + 1) ++ [111, 116, 104, 101, 114])) := hF9
        clear hF9 hU9 H8 B8 F8
        go_wp2_with fail
        refine (hqo g2 _ B9.out F9.out).mono ?_
        rintro e w10 ⟨rfl, hb10⟩
        have B10 : Hid (Below w.heap.size w w10) := B9.out.trans (hb10.mono B9.out.size)
        have H10 : Hid (HashIs w10 w.heap.size (cat pc (k + 1))) := H9.out.of_below hb10
        clear hb10 B9 H9 F9
        go_wp2_with fail
        refine (hro _).mono ?_
        rintro e w11 ⟨rfl, hb11⟩
        have B11 : Hid (Below w.heap.size w w11) := B10.out.trans (hb11.mono B10.out.size)
        have H11 : Hid (HashIs w11 w.heap.size (cat pc (k + 1))) := H10.out.of_below hb11
        clear hb11 B10 H10
        go_wp2_with fail
        refine (hq _ B11.out H11.out).mono ?_
        rintro e w12 ⟨rfl, hb12⟩
        have B12 : Hid (Below w.heap.size w w12) := B11.out.trans (hb12.mono B11.out.size)
        have H12 : Hid (HashIs w12 w.heap.size (cat pc (k + 1))) := H11.out.of_below hb12
        clear hb12 B11 H11
        go_wp2_with fail
        refine (hr _).mono ?_
        rintro e w13 ⟨rfl, hb13⟩
        have B13 : Hid (Below w.heap.size w w13) := B12.out.trans (hb13.mono B12.out.size)
        have H13 : Hid (HashIs w13 w.heap.size (cat pc (k + 1))) := H12.out.of_below hb13
        clear hb13 B12 H12 hq hr hro hqo HWO
        go_wp2
        go_roundw
        case rel => exact ⟨k + 1, T2, by omega, by omega, by go_num, rfl, HC1, H13.out, B13.out⟩
        case measure => simp [intOf]; omega
      · have hfb : ((k : Int) == fork) = false := by rw [beq_eq_false_iff_ne]; exact hfk
        clear hfk hq hr hro hqo HWO
        go_wp2
        go_roundw
        case rel => exact ⟨k + 1, T2, by omega, by omega, by go_num, rfl, HC1, H7.out, B7.out⟩
        case measure => simp [intOf]; omega
    · have hTs : T.size ≤ 1048576 := by rw [← szl, hT.out]; exact HTot.out k hk
      have hq := hsum_any w.heap.size (cat pc k) (by have := HTot.out k hk; omega) wr (HT.out.below hB h0) (by have := hB.size; omega) hH
      have hsm := fun W (hb : Below w.heap.size w W) => sum_any T (by omega) W (HT.out.below hb h0) (by have := hb.size; omega)
      rw [hT.out] at hsm
      have HBr : Hid (Below w.heap.size w wr) := hB
      clear hH hB
      generalize (⟨(shaB (cat pc k)).toArray⟩ : ByteArray) = S at *
      by_cases h1 : k < len
      · have h2 : ¬ k < 60 := fun h => hlt ⟨h1, h⟩
        have j1 : (k : Int) < (len : Int) := by omega
        have j2 : ¬ (k : Int) < 60 := by omega
        go_wp2_with fail
        refine hq.mono ?_
        rintro e w3 ⟨rfl, hb3⟩
        have B3 : Hid (Below w.heap.size w w3) := HBr.out.trans (hb3.mono HBr.out.size)
        clear hb3 hq
        go_wp2_with fail
        refine (hsm _ B3.out).mono ?_
        rintro e w4 ⟨rfl, hb4⟩
        have B4 : Hid (Below w.heap.size w w4) := B3.out.trans (hb4.mono B3.out.size)
        clear hb4 hsm
        go_wp2
        go_ret
        exact ⟨rfl, B4⟩
      · have j1 : ¬ (k : Int) < (len : Int) := by omega
        go_wp2_with fail
        refine hq.mono ?_
        rintro e w3 ⟨rfl, hb3⟩
        have B3 : Hid (Below w.heap.size w w3) := HBr.out.trans (hb3.mono HBr.out.size)
        clear hb3 hq
        go_wp2_with fail
        refine (hsm _ B3.out).mono ?_
        rintro e w4 ⟨rfl, hb4⟩
        have B4 : Hid (Below w.heap.size w w4) := B3.out.trans (hb4.mono B3.out.size)
        clear hb4 hsm
        go_wp2
        go_ret
        exact ⟨rfl, B4⟩
end Go.Proofs.YtndpomcfoogchaaDoor
