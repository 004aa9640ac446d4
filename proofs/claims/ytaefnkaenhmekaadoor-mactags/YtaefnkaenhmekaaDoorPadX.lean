/- The contract of the document's padded. -/
import Derived.Test.YtaefnkaenhmekaaDoorGrow
import Derived.Test.YtaefnkaenhmekaaDoorLeaf
import Derived.Deep.AppendLies
import Derived.Laws.IdiomStrings
import Derived.Deep.DeepMust
namespace Go.Proofs.YtaefnkaenhmekaaDoor
open Go.RowKit
theorem in5 : (Tryd.prog.info? 5).map (fun i => (i.zero, i.size, i.bytes)) = some (some (.int .u8 0), 1, 1) := by kernel_rfl
def vlen : Value → Nat
  | .slice _ n _ => n
  | _ => 0
theorem conv_own (w : World) (s : ByteArray) (hn : s.size ≤ 140737488355000) : ∃ cap W1, (convert 9 32 (.string s)).run Tryd.prog w = .ok (.slice (some ⟨w.heap.size, 0, none⟩) s.size cap) W1 ∧
    ownsG W1 w.heap.size (.slice (some ⟨w.heap.size, 0, none⟩) s.size cap) s.size (s.data.toList.map encB) ∧ Below w.heap.size w W1 := by
  have h := run_bytes_of_string (P := Tryd.prog) w 9 32 5 s Tryd.underlying9 Tryd.underlying32 Tryd.underlying5
  have hge := grownCap_ge w s.size 0 5
  have hcm := grownCap_le_maxLen w s.size 0 5 (by unfold maxLen; omega)
  have hsz : (bytesRow s (grownCap w s.size 0 5)).size = grownCap w s.size 0 5 := by
    unfold bytesRow
    simp only [Array.size_append, Array.size_map, Array.size_replicate]
    show s.size + (grownCap w s.size 0 5 - s.size) = _
    omega
  refine ⟨_, _, h, ⟨by rw [List.length_map, Array.length_toList]; rfl, w.heap.size, _, _, _, rfl, Nat.le_refl _, heap_alloc_new w.drew _, .inr (Nat.le_refl _), hge, hcm, hsz, ?_⟩, ((Below.refl _ _).drew).alloc (Nat.le_refl _) _⟩
  unfold bytesRow
  rw [Array.toList_append, List.take_left' (by simp)]
  simp [encB]
theorem len_form2 (n r : Nat) (hr : r ≤ 7) : (n : Int) * 8 / 2 ^ (8 * r) % 256 = ((lenB n (7 - r)).toNat : Int) := by
  unfold lenB
  rw [show 7 - (7 - r) = r from by omega, show (n : Int) * 8 = ((8 * n : Nat) : Int) from by omega]
  simp
theorem padZ_fact (n N1 : Nat) (h1 : n + 1 ≤ N1) (h2 : N1 ≤ n + 1 + padZ n) : (N1 % 64 = 56 → N1 = n + 1 + padZ n) ∧ (N1 = n + 1 + padZ n → N1 % 64 = 56) := by
  have h3 : padZ n = if n % 64 < 56 then 55 - n % 64 else 119 - n % 64 := rfl
  by_cases h : n % 64 < 56
  · rw [if_pos h] at h3
    constructor <;> intro <;> omega
  · rw [if_neg h] at h3
    constructor <;> intro <;> omega
theorem padZ_le (n : Nat) : padZ n ≤ 64 := by unfold padZ; split <;> omega
set_option maxRecDepth 100000 in
set_option maxHeartbeats 1600000 in
theorem padded_any (s : ByteArray) (hn : s.size ≤ 140737488355000) (w : World) :
    Calls Tryd.prog 28 #[.string s] w fun e w' => ∃ g cap, e = .returned (.slice (some ⟨g, 0, none⟩) (padL s.data.toList).length cap) ∧ (∀ j, j < (padL s.data.toList).length → w'.cell? ⟨g, j, none⟩ = some (.int .u8 ((byteAt (padL s.data.toList) j).toNat : Int))) ∧
      (padL s.data.toList).length ≤ cap ∧ g < w'.heap.size ∧ Below w.heap.size w w' := by
  obtain ⟨i0, hi, hz0, hz1, hz2⟩ := info_parts in5
  obtain ⟨cap, W1, hcv, hown, hbel⟩ := conv_own w s hn
  have i1 : (s.size : Int) ≤ 140737488355000 := by omega
  have zr := hbel.size
  go_enter Tryd.func28, Tryd.ntmps28
  have ho1 : ∀ ob, ownsG (W1.alloc ob) w.heap.size (.slice (some ⟨w.heap.size, 0, none⟩) s.size cap) s.size (s.data.toList.map encB) := fun ob => hown.kept (fun k hk => heap_alloc_old _ _ hk)
  clear hown
  go_wp2_with (at_builtin; go_must (refine wpList_append_G _ (by rfl) _ _ 32 (by rfl) w.heap.size i0 Tryd.underlying32 hi hz0 hz1 hz2 _ s.size _ (by rfl) (ho1 _) ⟨W1.heap.size, 0, none⟩ 1 1 [.int .u8 128] (by rfl) rfl (World.news_of_block (cs := #[.int .u8 128]) (t := 5) (fr := (0, 0)) (heap_alloc_new W1 _)) (by simp [Value.oneCell']) (by omega) (by simp; omega) ?_; intro v2 W2 hown2 hb2))
  have hb02 : Below w.heap.size w W2 := (hbel.alloc zr _).trans hb2
  have HO2 : Hid (ownsG W2 w.heap.size v2 (s.size + 1) ((s.data.toList ++ (128 :: List.replicate 0 0)).map encB)) := by
    rw [List.map_append]; exact hown2
  have HB2 : Hid (Below w.heap.size w W2) := hb02
  clear hown2 hb2 hb02 hbel zr ho1 hcv
  go_loopw [3] (fun v wr => ∃ N1 : Nat, s.size + 1 ≤ N1 ∧ N1 ≤ s.size + 1 + padZ s.size ∧ vlen v = N1 ∧ ownsG wr w.heap.size v N1 ((s.data.toList ++ (128 :: List.replicate (N1 - (s.size + 1)) 0)).map encB) ∧ Below w.heap.size w wr) (fun v _ => s.size + 1 + padZ s.size - vlen v)
  case atStart =>
    refine ⟨s.size + 1, by omega, by omega, ?_, ?_, HB2.out⟩
    · obtain ⟨g, c, e, _⟩ := HO2.out.form; rw [e]; rfl
    · rw [Nat.sub_self]; exact HO2.out
  case round =>
    clear HO2 HB2
    obtain ⟨N1, hN1, hN2, hv, hown, hbel⟩ := hrel
    obtain ⟨g, c, rfl, hg1, hg2, hg3⟩ := hown.form
    have zr := hbel.size
    have hp := padZ_fact s.size N1 hN1 hN2
    have hpb : padZ s.size ≤ 64 := padZ_le _
    clear hv
    by_cases hlt : N1 < s.size + 1 + padZ s.size
    · have j1 : ((N1 : Int) % 64 != 56) = true := by rw [bne_iff_ne]; intro e; have := hp.1 (by omega); omega
      have j2 : (N1 : Int) ≤ 140737488355100 := by omega
      have ho1 : ∀ ob, ownsG (wr.alloc ob) w.heap.size (.slice (some ⟨g, 0, none⟩) N1 c) N1 ((s.data.toList ++ (128 :: List.replicate (N1 - (s.size + 1)) 0)).map encB) := fun ob => hown.kept (fun k hk => heap_alloc_old _ _ hk)
      clear hp
      go_wp2_with (at_builtin; go_must (refine wpList_append_G _ (by rfl) _ _ 32 (by rfl) w.heap.size i0 Tryd.underlying32 hi hz0 hz1 hz2 _ N1 _ (by rfl) (ho1 _) ⟨wr.heap.size, 0, none⟩ 1 1 [.int .u8 0] (by rfl) rfl (World.news_of_block (cs := #[.int .u8 0]) (t := 5) (fr := (0, 0)) (heap_alloc_new wr _)) (by simp [Value.oneCell']) (by omega) (by simp; omega) ?_; intro v2 W2 hown2 hb2))
      have hb02 : Below w.heap.size w W2 := (hbel.alloc zr _).trans hb2
      have hv2 : vlen v2 = N1 + 1 := by obtain ⟨g, c, e, _⟩ := hown2.form; rw [e]; rfl
      refine ⟨⟨N1 + 1, by omega, by omega, hv2, ?_, hb02⟩, ?_⟩
      · rw [show N1 + 1 - (s.size + 1) = (N1 - (s.size + 1)) + 1 from by omega, List.replicate_succ']
        rw [show s.data.toList ++ (128 :: (List.replicate (N1 - (s.size + 1)) 0 ++ [0])) = (s.data.toList ++ (128 :: List.replicate (N1 - (s.size + 1)) 0)) ++ [0] from by simp, List.map_append]
        exact hown2
      · rw [hv2]; simp only [vlen]; omega
    · have hNe : N1 = s.size + 1 + padZ s.size := by omega
      have j1 : ((N1 : Int) % 64 != 56) = false := by rw [bne_eq_false_iff_eq]; have := hp.2 hNe; omega
      have j2 : (N1 : Int) ≤ 140737488355100 := by omega
      have HO : Hid (ownsG wr w.heap.size (.slice (some ⟨g, 0, none⟩) (N1 + 0) c) (N1 + 0) ((s.data.toList ++ (128 :: (List.replicate (padZ s.size) 0 ++ lens s.size 0))).map encB)) := by
        have e : N1 - (s.size + 1) = padZ s.size := by omega
        rw [e] at hown
        rw [show lens s.size 0 = [] from rfl, List.append_nil]; exact hown
      have HBe : Hid (Below w.heap.size w wr) := hbel
      have HN : Hid (N1 = s.size + 1 + padZ s.size) := hNe
      clear hown hbel hp hNe hlt hN1 hN2 hg1 hg2 hg3 zr hpb
      go_wp2_with fail
      go_loopw [3, 5] (fun v i wr => ∃ j : Nat, j ≤ 8 ∧ i = .int .i64 (7 - (j : Int)) ∧ ownsG wr w.heap.size v (N1 + j) ((s.data.toList ++ (128 :: (List.replicate (padZ s.size) 0 ++ lens s.size j))).map encB) ∧ Below w.heap.size w wr) (fun _ i _ => (intOf i + 1).toNat)
      case atStart => exact ⟨0, by omega, rfl, HO.out, HBe.out⟩
      case round =>
        clear HO HBe
        obtain ⟨j, hj, rfl, hown, hbel⟩ := hrel
        obtain ⟨g3, c3, rfl, hg1, hg2, hg3⟩ := hown.form
        have zr := hbel.size
        by_cases hlt : j < 8
        · obtain ⟨r, hr⟩ : ∃ r : Nat, r = 7 - j := ⟨_, rfl⟩
          have er : (7 : Int) - (j : Int) = (r : Int) := by omega
          rw [er]
          have k0 : (0 : Int) ≤ (r : Int) := by omega
          have k1 : (r : Int) ≤ 7 := by omega
          have hlf := len_form2 s.size r (by omega)
          rw [show 7 - r = j from by omega] at hlf
          clear hr
          have ho1 : ∀ ob, ownsG (wr.alloc ob) w.heap.size (.slice (some ⟨g3, 0, none⟩) (N1 + j) c3) (N1 + j) ((s.data.toList ++ (128 :: (List.replicate (padZ s.size) 0 ++ lens s.size j))).map encB) := fun ob => hown.kept (fun k hk => heap_alloc_old _ _ hk)
          go_wp2_with (at_builtin; go_must (refine wpList_append_G _ (by rfl) _ _ 32 (by rfl) w.heap.size i0 Tryd.underlying32 hi hz0 hz1 hz2 _ (N1 + j) _ (by rfl) (ho1 _) ⟨wr.heap.size, 0, none⟩ 1 1 [.int .u8 ((lenB s.size j).toNat : Int)] (by rfl) rfl (World.news_of_block (cs := #[.int .u8 ((lenB s.size j).toNat : Int)]) (t := 5) (fr := (0, 0)) (heap_alloc_new wr _)) (by simp [Value.oneCell']) (by omega) (by simp; omega) ?_; intro v2 W2 hown2 hb2))
          have hb02 : Below w.heap.size w W2 := (hbel.alloc zr _).trans hb2
          clear hlf
          go_wp2
          go_roundw
          case rel =>
            refine ⟨j + 1, by omega, by go_num, ?_, hb02⟩
            rw [lens_succ, show s.data.toList ++ (128 :: (List.replicate (padZ s.size) 0 ++ (lens s.size j ++ [lenB s.size j]))) = (s.data.toList ++ (128 :: (List.replicate (padZ s.size) 0 ++ lens s.size j))) ++ [lenB s.size j] from by simp, List.map_append]
            exact hown2
          case measure => simp [intOf]
        · obtain rfl : j = 8 := by omega
          have hpl : (padL s.data.toList).length = N1 + 8 := by
            unfold padL
            rw [List.length_append, List.length_cons, List.length_append, List.length_replicate, lens_length, Array.length_toList, HN.out]
            show s.size + (padZ s.size + 8 + 1) = _
            omega
          have hpe : s.data.toList ++ (128 :: (List.replicate (padZ s.size) 0 ++ lens s.size 8)) = padL s.data.toList := by
            unfold padL; rw [Array.length_toList]; rfl
          rw [hpe] at hown
          have hcell : Hid (∀ j, j < (padL s.data.toList).length → wr.cell? ⟨g3, j, none⟩ = some (.int .u8 ((byteAt (padL s.data.toList) j).toNat : Int))) := fun j hj => by
            rw [hown.cell j (by rw [← hpl]; exact hj), ← List.getElem?_toArray, blk_get _ _ hj]
          have hB : Hid (Below w.heap.size w wr) := hbel
          have HP : Hid ((padL s.data.toList).length = N1 + 8) := hpl
          clear hown hbel hpe hpl
          go_wp2
          go_ret
          exact ⟨g3, c3, by rw [HP.out]; rfl, hcell, by rw [HP.out]; exact hg3, hg2, hB⟩
end Go.Proofs.YtaefnkaenhmekaaDoor
