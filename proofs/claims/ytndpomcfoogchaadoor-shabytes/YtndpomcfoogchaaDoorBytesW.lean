/- The walk of the law ShaBytes. -/
import Derived.Test.YtndpomcfoogchaaDoorWorks
namespace Go.Proofs.YtndpomcfoogchaaDoor
open Go.RowKit
theorem HashIs.of_upd {w w' : World} {g h : Nat} {l : List UInt8} (hH : HashIs w h l) (hU : Upd g w w') (hne : h ≠ g) : HashIs w' h l := by
  obtain ⟨tl, h1, h2⟩ := hH
  exact ⟨tl, h1.other (hU.block _ (lt_of_block h1.1) hne), h2⟩
/-- two hashes in memory -/
def TwoI (w wr : World) (g1 g2 : Nat) (l1 l2 : List UInt8) : Prop := HashIs wr g1 l1 ∧ HashIs wr g2 l2 ∧ Below w.heap.size w wr
theorem TwoI.below {w wr w1 : World} {g1 g2 : Nat} {l1 l2 : List UInt8} (h : TwoI w wr g1 g2 l1 l2) (hb : Below wr.heap.size wr w1) : TwoI w w1 g1 g2 l1 l2 :=
  ⟨h.1.of_below hb, h.2.1.of_below hb, h.2.2.trans (hb.mono h.2.2.size)⟩
theorem TwoI.one {w wr w1 : World} {g1 g2 : Nat} {l1 l2 l : List UInt8} (h : TwoI w wr g1 g2 l1 l2) (hne : g1 ≠ g2) (h1 : w.heap.size ≤ g1) (hH : HashIs w1 g1 l) (hU : Upd g1 wr w1) : TwoI w w1 g1 g2 l l2 :=
  ⟨hH, h.2.1.of_upd hU (Ne.symm hne), hU.below h.2.2 h1 h.2.2.size⟩
theorem TwoI.two {w wr w1 : World} {g1 g2 : Nat} {l1 l2 l : List UInt8} (h : TwoI w wr g1 g2 l1 l2) (hne : g1 ≠ g2) (h1 : w.heap.size ≤ g2) (hH : HashIs w1 g2 l) (hU : Upd g2 wr w1) : TwoI w w1 g1 g2 l1 l :=
  ⟨h.1.of_upd hU hne, hH, hU.below h.2.2 h1 h.2.2.size⟩
theorem TwoI.tab {w wr : World} {g1 g2 : Nat} {l1 l2 : List UInt8} (h : TwoI w wr g1 g2 l1 l2) (hT : Tab w) (h0 : 0 < w.heap.size) : Tab wr := hT.below h.2.2 h0
theorem TwoI.pos {w wr : World} {g1 g2 : Nat} {l1 l2 : List UInt8} (h : TwoI w wr g1 g2 l1 l2) (h0 : 0 < w.heap.size) : 0 < wr.heap.size := by have := h.2.2.size; omega
theorem ext_list (s : ByteArray) (a b : Nat) : (s.extract a b).data.toList = (s.data.toList.take b).drop a := by
  rw [ByteArray.data_extract, Array.toList_extract, List.extract_eq_take_drop]
  rw [List.drop_take]
theorem one_byte (s : ByteArray) (k : Nat) : s.data.toList.take k ++ (s.extract k (k + 1)).data.toList = s.data.toList.take (k + 1) := by
  rw [ext_list]
  have e : (s.data.toList.take (k + 1)).take k = s.data.toList.take k := by rw [List.take_take]; congr 1; omega
  rw [← e, List.take_append_drop]
theorem size_list (s : ByteArray) : s.data.toList.length = s.size := by rw [Array.length_toList]; rfl
set_option maxRecDepth 100000 in
set_option maxHeartbeats 1600000 in
theorem bytes_any (s : ByteArray) (at' : Int) (w : World) (hTab : Tab w) (h0 : 0 < w.heap.size) :
    Calls Tryd.prog 6 #[.string s, .int .i64 at'] w fun e w' => e = .returned (.bool true) ∧ Below w.heap.size w w' := by
  have HT : Hid (Tab w) := hTab
  clear hTab
  go_enter Tryd.func6, Tryd.ntmps6
  go_wp2_with fail
  refine (new_any _).mono ?_
  rintro e w1 ⟨rfl, hH1, hb1⟩
  have z1 := hb1.size
  have g1lt := hH1.lt
  go_wp2_with fail
  refine (new_any _).mono ?_
  rintro e w2 ⟨rfl, hH2, hb2⟩
  have hI2 : TwoI w w2 w.heap.size w1.heap.size [] [] := ⟨hH1.of_below hb2, hH2, hb1.trans (hb2.mono z1)⟩
  clear hH1 hb1 hH2 hb2 z1
  have hw := works_any w2 (hI2.tab HT.out h0) (hI2.pos h0)
  generalize w1.heap.size = g2 at *
  go_wp2_with fail
  refine hw.mono ?_
  rintro e w3 ⟨rfl, hb3⟩
  have hI3 := hI2.below hb3
  clear hI2 hb3 hw
  by_cases hbig : 400 < s.size
  · have i1 : (400 : Int) < (s.size : Int) := by omega
    have hB : Hid (Below w.heap.size w w3) := hI3.2.2
    clear hI3
    go_wp2
    go_ret
    exact ⟨rfl, hB⟩
  · have i1 : ¬ (400 : Int) < (s.size : Int) := by omega
    have i2 : (s.size : Int) ≤ 400 := by omega
    have HI : Hid (TwoI w w3 w.heap.size g2 [] []) := hI3
    clear hI3
    have hd : decide ((400 : Int) < (s.size : Int)) = false := by rw [decide_eq_false_iff_not]; omega
    have hne : w.heap.size ≠ g2 := by omega
    go_wp2_with fail
    clear hd
    go_loopw [27] (fun i wr => ∃ k : Nat, k ≤ s.size ∧ i = .int .i64 k ∧ TwoI w wr w.heap.size g2 (s.data.toList.take k) []) (fun i _ => s.size - (intOf i).toNat)
    case atStart => exact ⟨0, by omega, rfl, HI.out⟩
    case round =>
      clear HI
      obtain ⟨k, hk, rfl, hI⟩ := hrel
      by_cases hlt : k < s.size
      · have j0 : (0 : Int) ≤ (k : Int) := by omega
        have j1 : (k : Int) < (s.size : Int) := by omega
        have hwr := write_any w.heap.size h0 (s.data.toList.take k) (s.extract k (k + 1)) (by rw [List.length_take, size_list, ByteArray.size_extract]; omega) wr (hI.tab HT.out h0) hI.1
        rw [one_byte] at hwr
        have hsl : ∀ W : World, (Instr.slice 9 (.string s) (some (.int .i64 (k : Int))) (some (.int .i64 ((k : Int) + 1))) none).run Tryd.prog W = .ok (.string (s.extract k (k + 1))) W := fun W => by
          rw [run_slice_string W 9 s .i64 .i64 k (k + 1) Tryd.underlying9 (by omega) (by omega) (by omega)]
          rfl
        go_wp2_with fail
        clear hsl
        refine hwr.mono ?_
        rintro e w4 ⟨rfl, hH, hU⟩
        have hI4 := hI.one hne (Nat.le_refl _) hH hU
        clear hI hH hU hwr
        go_wp2
        go_roundw
        case rel => exact ⟨k + 1, by omega, by go_num, hI4⟩
        case measure => simp [intOf]; omega
      · have hIs : TwoI w wr w.heap.size g2 s.data.toList [] := by
          have e : k = s.size := by omega
          rw [e, List.take_of_length_le (by rw [size_list]; exact Nat.le_refl _)] at hI; exact hI
        have i5 : ¬ (k : Int) < (s.size : Int) := by omega
        clear hI hk hlt
        obtain ⟨c, hc1, hc2⟩ : ∃ c : Nat, c ≤ s.size ∧ wrap64 ((IntKind.u64.wrap at').tmod ((s.size : Int) + 1)) = (c : Int) := by
          have h1 : 0 ≤ IntKind.u64.wrap at' := wrap_u64_nonneg _
          have h2 : (IntKind.u64.wrap at').tmod ((s.size : Int) + 1) = (IntKind.u64.wrap at') % ((s.size : Int) + 1) := Int.tmod_eq_emod_of_nonneg h1
          have h3 := Int.emod_nonneg (IntKind.u64.wrap at') (show (s.size : Int) + 1 ≠ 0 by omega)
          have h4 := Int.emod_lt_of_pos (IntKind.u64.wrap at') (show 0 < (s.size : Int) + 1 by omega)
          refine ⟨((IntKind.u64.wrap at') % ((s.size : Int) + 1)).toNat, by omega, ?_⟩
          rw [h2]
          generalize (IntKind.u64.wrap at') % ((s.size : Int) + 1) = r at *
          simp only [wrap64]
          omega
        have hs1 : ∀ W : World, (Instr.slice 9 (.string s) none (some (.int .i64 (c : Int))) none).run Tryd.prog W = .ok (.string (s.extract 0 c)) W := fun W => by
          rw [run_slice_string_to_if W 9 s .i64 c Tryd.underlying9, if_pos (by omega)]; rfl
        have hs2 : ∀ W : World, (Instr.slice 9 (.string s) (some (.int .i64 (c : Int))) none none).run Tryd.prog W = .ok (.string (s.extract c s.size)) W := fun W => by
          rw [run_slice_string_from_if W 9 s .i64 c Tryd.underlying9, if_pos (by omega)]; rfl
        have hw1 := write_any g2 (by omega) [] (s.extract 0 c) (by rw [ByteArray.size_extract]; simp; omega) wr (hIs.tab HT.out h0) hIs.2.1
        have HIs : Hid (TwoI w wr w.heap.size g2 s.data.toList []) := hIs
        clear hIs
        go_wp2_with fail
        refine hw1.mono ?_
        rintro e w4 ⟨rfl, hH, hU⟩
        have hI4 := HIs.out.two hne (by omega) hH hU
        clear hH hU hw1 HIs
        have hw2 := write_any g2 (by omega) _ (s.extract c s.size) (by rw [List.nil_append, size_list, ByteArray.size_extract, ByteArray.size_extract]; omega) w4 (hI4.tab HT.out h0) hI4.2.1
        have ejoin : [] ++ (s.extract 0 c).data.toList ++ (s.extract c s.size).data.toList = s.data.toList := by
          rw [List.nil_append, ext_list, drop_text, List.drop_zero, List.take_append_drop]
        rw [ejoin] at hw2
        have HI4 : Hid (TwoI w w4 w.heap.size g2 s.data.toList ([] ++ (s.extract 0 c).data.toList)) := hI4
        clear hI4 ejoin
        go_wp2_with fail
        refine hw2.mono ?_
        rintro e w5 ⟨rfl, hH, hU⟩
        have hI5 := HI4.out.two hne (by omega) hH hU
        clear hH hU hw2 HI4 hs1 hs2
        have hsum := sum_any s (by omega) w5 (hI5.tab HT.out h0) (hI5.pos h0)
        have HI5 : Hid (TwoI w w5 w.heap.size g2 s.data.toList s.data.toList) := hI5
        clear hI5
        go_wp2_with fail
        refine hsum.mono ?_
        rintro e w6 ⟨rfl, hb6⟩
        have hI6 := HI5.out.below hb6
        clear HI5 hb6 hsum
        have hq1 := hsum_any w.heap.size s.data.toList (by rw [size_list]; omega) w6 (hI6.tab HT.out h0) (hI6.pos h0) hI6.1
        have HI6 : Hid (TwoI w w6 w.heap.size g2 s.data.toList s.data.toList) := hI6
        clear hI6
        go_wp2_with fail
        refine hq1.mono ?_
        rintro e w7 ⟨rfl, hb7⟩
        have hI7 := HI6.out.below hb7
        clear HI6 hb7 hq1
        have hq2 := hsum_any g2 s.data.toList (by rw [size_list]; omega) w7 (hI7.tab HT.out h0) (hI7.pos h0) hI7.2.1
        have HI7 : Hid (TwoI w w7 w.heap.size g2 s.data.toList s.data.toList) := hI7
        clear hI7
        generalize (⟨(shaB s.data.toList).toArray⟩ : ByteArray) = S at *
        go_wp2_with fail
        refine hq2.mono ?_
        rintro e w8 ⟨rfl, hb8⟩
        have hI8 := HI7.out.below hb8
        clear HI7 hb8 hq2
        have hl1 := len_any w.heap.size s.data.toList w8 hI8.1
        have hl2 := len_any g2 s.data.toList w8 hI8.2.1
        rw [size_list] at hl1 hl2
        have hB : Hid (Below w.heap.size w w8) := hI8.2.2
        clear hI8
        go_wp2_with fail
        refine hl1.mono ?_
        rintro e w9 ⟨rfl, hw9⟩
        rw [hw9]
        clear hw9 hl1
        go_wp2_with fail
        refine hl2.mono ?_
        rintro e w10 ⟨rfl, hw10⟩
        rw [hw10]
        clear hw10 hl2
        go_wp2
        go_ret
        exact ⟨rfl, hB⟩
end Go.Proofs.YtndpomcfoogchaaDoor
