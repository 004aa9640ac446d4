/- The contract of the document's Sum. -/
import Derived.Test.YtaefnkaenhmekaaDoorPadX
import Derived.Test.YtaefnkaenhmekaaDoorRTakeW
namespace Go.Proofs.YtaefnkaenhmekaaDoor
open Go.RowKit
attribute [local go_sem] wrap_V wrap_add bits_xor bits_and bits_or bits_not
attribute [local go_sem ↓] shl_any shr_any wrap_u8_V
theorem in5b : (Tryd.prog.info? 5).map (fun i => (i.zero, i.size, i.bytes)) = some (some (.int .u8 0), 1, 1) := by kernel_rfl
/-- while the blocks are taken in -/
def RI (P : List UInt8) (gp : Nat) (w wr : World) (h : Nat) (st : St) : Prop :=
  S8 wr h st ∧ h < wr.heap.size ∧ gp < wr.heap.size ∧ (∀ j, j < P.length → wr.cell? ⟨gp, j, none⟩ = some (.int .u8 ((byteAt P j).toNat : Int))) ∧ Below w.heap.size w wr
theorem RI.step {P : List UInt8} {gp : Nat} {w wr w1 : World} {h h' : Nat} {st st' : St} (hI : RI P gp w wr h st) (hb : Below wr.heap.size wr w1) (hs : S8 w1 h' st') (hl : h' < w1.heap.size) : RI P gp w w1 h' st' :=
  ⟨hs, hl, by have := hb.size; have := hI.2.2.1; omega, fun j hj => (hb.cell (p := ⟨gp, j, none⟩) hI.2.2.1).trans (hI.2.2.2.1 j hj), hI.2.2.2.2.trans (hb.mono hI.2.2.2.2.size)⟩
theorem byteAt_cut (P : List UInt8) (A i : Nat) (hi : i < 64) : byteAt ((P.drop A).take 64) i = byteAt P (A + i) := by
  unfold byteAt
  rw [List.getD_eq_getElem?_getD, List.getD_eq_getElem?_getD, List.getElem?_take_of_lt hi, List.getElem?_drop]
theorem S8_at {w : World} {g : Nat} {s : St} (h : S8 w g s) (k : Nat) (hk : k < 8) : w.cell? ⟨g, k, none⟩ = some (.int .u32 (V (at32 s.list k))) := by
  obtain ⟨c0, c1, c2, c3, c4, c5, c6, c7⟩ := h
  match k, hk with
  | 0, _ => exact c0
  | 1, _ => exact c1
  | 2, _ => exact c2
  | 3, _ => exact c3
  | 4, _ => exact c4
  | 5, _ => exact c5
  | 6, _ => exact c6
  | 7, _ => exact c7
set_option maxRecDepth 100000 in
set_option maxHeartbeats 3200000 in
theorem rsum_any (s : ByteArray) (hn : s.size ≤ 140737488355000) (w : World) :
    Calls Tryd.prog 20 #[.string s] w fun e w' => e = .returned (.string ⟨(shaB s.data.toList).toArray⟩) ∧ Below w.heap.size w w' := by
  obtain ⟨i0, hi, hz0, hz1, hz2⟩ := info_parts in5b
  have hdp : Hid (dig (absN (padL s.data.toList) ((padL s.data.toList).length / 64)) = shaB s.data.toList) := dig_pad _
  have hpad := padded_any s hn
  have hPl : (padL s.data.toList).length ≤ 140737488355328 := by
    rw [padL_length, Array.length_toList]
    show (if s.size % 64 < 56 then 64 * (s.size / 64 + 1) else 64 * (s.size / 64 + 2)) ≤ 140737488355328
    split <;> omega
  have hP64 : (padL s.data.toList).length % 64 = 0 := by
    rw [padL_length]; split <;> omega
  generalize padL s.data.toList = P at *
  generalize shaB s.data.toList = D at *
  go_enter Tryd.func20, Tryd.ntmps20
  go_wp2_with fail
  refine (hpad _).mono ?_
  rintro e w2 ⟨gp, capp, rfl, hpc, hpl, hgp, hb2⟩
  clear hpad
  have hI0 : Hid (RI P gp w w2 w.heap.size iv) := by
    refine ⟨(S8.of_row (t := 42) (fr := (0, 0)) (heap_alloc_new w _)).below hb2 (by simp), by have := hb2.size; simp at this; omega, hgp, hpc, ((Below.refl _ _).alloc (Nat.le_refl _) _).trans (hb2.mono (by simp))⟩
  clear hpc hgp hb2
  have L1 : (P.length : Int) ≤ 140737488355328 := by omega
  have L2 : (P.length : Int) ≤ (capp : Int) := by omega
  go_wp2_with fail
  go_loopw [3, 5] (fun v i wr => ∃ k h c : Nat, 64 * k ≤ P.length ∧ i = .int .i64 (64 * k : Nat) ∧ v = .slice (some ⟨h, 0, none⟩) 8 c ∧ RI P gp w wr h (absN P k)) (fun _ i _ => P.length - (intOf i).toNat)
  case atStart => exact ⟨0, _, _, by omega, rfl, rfl, hI0.out⟩
  case round =>
    clear hI0
    obtain ⟨k, h, c, hk, rfl, rfl, hI⟩ := hrel
    obtain ⟨A, hA⟩ : ∃ A, A = 64 * k := ⟨_, rfl⟩
    rw [← hA] at hk ⊢
    have a0 : (0 : Int) ≤ (A : Int) := by omega
    by_cases hlt : A < P.length
    · have hA64 : A + 64 ≤ P.length := by omega
      have a1 : (A : Int) < (P.length : Int) := by omega
      have a2 : (A : Int) + 64 ≤ (P.length : Int) := by omega
      have a3 : (A : Int) + 64 ≤ (capp : Int) := by omega
      have a4 : ¬ capp = A := by omega
      have a5 : ((A : Int) + 64).toNat = A + 64 := by omega
      have htk := rtake_any (absN P k) ((P.drop A).take 64) h c gp A (capp - A) wr hI.2.1 hI.2.2.1 hI.1 (fun i hi => by
        rw [byteAt_cut _ _ _ hi]; exact hI.2.2.2.1 (A + i) (by omega))
      have hab : takeB (absN P k) ((P.drop A).take 64) = absN P (k + 1) := by rw [hA]; rfl
      rw [hab] at htk
      have HI : Hid (RI P gp w wr h (absN P k)) := hI
      have HA : Hid (A = 64 * k) := hA
      clear hI hab hA
      go_wp2_with fail
      refine htk.mono ?_
      rintro e w3 ⟨h', rfl, hS8, hl8, hb3⟩
      have hI3 := HI.out.step hb3 hS8 hl8
      clear HI hb3 hS8 hl8 htk a4 a5
      go_wp2
      go_roundw
      case rel => exact ⟨k + 1, h', 8, by have := HA.out; omega, by have := HA.out; go_num, rfl, hI3⟩
      case measure => simp [intOf]; omega
    · have hkm : k = P.length / 64 := by omega
      rw [hkm] at hI
      have a1 : ¬ (A : Int) < (P.length : Int) := by omega
      have HD : Hid (dig (absN P (P.length / 64)) = D) := hdp
      generalize absN P (P.length / 64) = st at *
      obtain ⟨hS8, hl8, _, _, hbel⟩ := hI
      obtain ⟨W3, hW3⟩ : ∃ W3, W3 = wr := ⟨_, rfl⟩
      subst hW3
      have zr := hbel.size
      have HS8 : Hid (S8 W3 h st) := hS8
      have HBe : Hid (Below w.heap.size w W3) := hbel
      clear hS8 hbel hdp hkm hlt hk hA
      go_wp2_with fail
      go_loopw [6, 7] (fun v i wx => ∃ k : Nat, k ≤ 8 ∧ i = .int .i64 k ∧ wx.ownsRow W3.heap.size 5 1 v (4 * k) ((digB (st.list.take k)).map encB) ∧ Below W3.heap.size W3 wx) (fun _ i _ => 8 - (intOf i).toNat)
      case atStart => exact ⟨0, by omega, rfl, World.ownsRow_nil _ _ _ _, Below.refl _ _⟩
      case round =>
        obtain ⟨k, hk, rfl, hown, hbx⟩ := hrel
        by_cases hlt : k < 8
        · have j0 : (0 : Int) ≤ (k : Int) := by omega
          have j1 : (k : Int) < 8 := by omega
          have zx := hbx.size
          have hlx : h < wr.heap.size := by omega
          have hcell : wr.cell? ⟨h, k, none⟩ = some (.int .u32 (V (at32 st.list k))) := (hbx.cell (p := ⟨h, k, none⟩) hl8).trans (S8_at HS8.out k hlt)
          have ag : u6.ownBlock ≠ some h := fun e => by have := (hown.lt h e).1; omega
          have hdt : digB (st.list.take (k + 1)) = digB (st.list.take k) ++ dg (at32 st.list k) := digB_take _ _ hlt
          generalize at32 st.list k = x at *
          have HDT : Hid (digB (st.list.take (k + 1)) = digB (st.list.take k) ++ [lowB (x >>> 24), lowB (x >>> 16), lowB (x >>> 8), lowB x]) := hdt
          clear hdt
          go_wp2
          go_region_held3 (fun w' => w'.cell? ⟨h, k, none⟩ = some (.int .u32 (V x))) (first | go_keep | (rw [hgrow.cell_far _ (by simp; omega) (Ne.symm ag)]; assumption))
            ((refine step_append_lies _ (by rfl) _ _ _ (by rfl) W3.heap.size 5 i0 _ 1 1 Tryd.underlying32 hi hz0 hz1 hz2 rfl (by omega) u6 (4 * k) _ (by rfl) ((hown.alloc _).drew) ⟨wr.heap.size, 0, none⟩ 4 4 [.int .u8 ((lowB (x >>> 24)).toNat : Int), .int .u8 ((lowB (x >>> 16)).toNat : Int), .int .u8 ((lowB (x >>> 8)).toNat : Int), .int .u8 ((lowB x).toNat : Int)] (by rfl) (by rfl) (World.news_of_block (cs := #[.int .u8 ((lowB (x >>> 24)).toNat : Int), .int .u8 ((lowB (x >>> 16)).toNat : Int), .int .u8 ((lowB (x >>> 8)).toNat : Int), .int .u8 ((lowB x).toNat : Int)]) (t := 5) (fr := (0, 0)) (heap_alloc_new wr _)) (by simp [Value.oneCell']) (by omega) (by unfold maxLen; omega) (by omega) (by simp; omega) (wr.heap.size + 1) (by simp) ?_; intro gg cap' w1 hown1 hgrow hat hlt1))
          all_goals
            go_wp2
            go_roundw
            case rel =>
              refine ⟨k + 1, by omega, by go_num, ?_, ((hbx.alloc zx _).drew).grown hgrow (by simp; omega) (fun r hr => (hown.lt r hr).1)⟩
              rw [HDT.out, List.map_append]; exact hown1
            case measure => simp [intOf]; omega
        · obtain rfl : k = 8 := by omega
          obtain ⟨g8, cap8, rfl, _, _⟩ := hown.form (by omega)
          have hll : (dig st).length = 32 := dig_length st
          have hconv := run_convert_bytes_back (P := Tryd.prog) wr 32 9 5 ⟨g8, 0, none⟩ cap8 (dig st) Tryd.underlying32 Tryd.underlying5 Tryd.underlying9 (fun j hj => by
            rw [addr_add, hown.cellAt j (by omega), List.getElem?_map, show digB (st.list.take 8) = dig st from rfl, List.getElem?_eq_getElem hj]; rfl)
          rw [hll] at hconv
          have hB : Hid (Below w.heap.size w wr) := HBe.out.trans (hbx.mono zr)
          clear hown hbx
          go_wp2
          go_ret
          exact ⟨by rw [← HD.out]; rfl, hB⟩
end Go.Proofs.YtaefnkaenhmekaaDoor
