/- The contract of sha.Hex. -/
import Derived.Test.YtaefnkaenhmekaaDoorHex
import Derived.Test.YtaefnkaenhmekaaDoorHashW
import Derived.Deep.RegionHeld3
import Derived.Deep.AppendLies
import Derived.OwnWalk
namespace Go.Proofs.YtaefnkaenhmekaaDoor
open Go.RowKit
theorem info5 : (Tryd.prog.info? 5).map (fun i => (i.zero, i.size, i.bytes)) = some (some (.int .u8 0), 1, 1) := by kernel_rfl
set_option maxRecDepth 100000 in
set_option maxHeartbeats 1600000 in
theorem hex_any (s : ByteArray) (hn : s.size ≤ 1048576) (w : World) :
    Calls Tryd.prog 23 #[.string s] w fun e w' => e = .returned (.string ⟨(hexL s.data.toList).toArray⟩) ∧ Below w.heap.size w w' := by
  obtain ⟨i0, hi, hz0, hz1, hz2⟩ := info_parts info5
  have hmk : ∀ u : World, (Instr.makeSlice 32 (.int .i64 0) (.int .i64 (2 * (s.size : Int)))).run Tryd.prog u =
      .ok (.slice (some ⟨u.heap.size, 0, none⟩) 0 (2 * s.size)) (u.alloc (.cells (madeCells #[.int .u8 0] (2 * s.size)) 5)) := fun u => by
    have h := run_make (P := Tryd.prog) u 32 5 i0 (.int .u8 0) Tryd.underlying32 hi hz0 .i64 .i64 0 (2 * (s.size : Int)) (by omega) (by omega) (by rw [hz2]; omega) (by omega)
    have e : (2 * (s.size : Int)).toNat = 2 * s.size := by omega
    rw [e] at h
    simpa [hz1, Value.cells] using h
  have i1 : (s.size : Int) ≤ 1048576 := by omega
  go_enter Tryd.func23, Tryd.ntmps23
  go_wp2_with fail
  have hst : (w.alloc (.cells (madeCells #[.int .u8 0] (2 * s.size)) 5)).ownsRow w.heap.size 5 1 (.slice (some ⟨w.heap.size, 0, none⟩) 0 (2 * s.size)) 0 [] :=
    World.ownsRow_made w _ _ (Nat.le_refl _) (by unfold maxLen; omega) (by simp [madeCells])
  have Hst : Hid ((w.alloc (.cells (madeCells #[.int .u8 0] (2 * s.size)) 5)).ownsRow w.heap.size 5 1 (.slice (some ⟨w.heap.size, 0, none⟩) 0 (2 * s.size)) 0 []) := hst
  clear hst hmk
  go_loopw [3, 11] (fun v i wr => ∃ k g cap : Nat, k ≤ s.size ∧ i = .int .i64 k ∧ v = .slice (some ⟨g, 0, none⟩) (2 * k) cap ∧ wr.ownsRow w.heap.size 5 1 (.slice (some ⟨g, 0, none⟩) (2 * k) cap) (2 * k) ((hexL (s.data.toList.take k)).map encB) ∧ Below w.heap.size w wr) (fun _ i _ => s.size - (intOf i).toNat)
  case atStart => exact ⟨0, _, _, by omega, rfl, rfl, Hst.out, (Below.refl _ _).alloc (Nat.le_refl _) _⟩
  case round =>
    clear Hst
    obtain ⟨k, g, cap, hk, rfl, rfl, hown, hbel⟩ := hrel
    by_cases hlt : k < s.size
    · have j0 : (0 : Int) ≤ (k : Int) := by omega
      have j1 : (k : Int) < (s.size : Int) := by omega
      obtain ⟨c, hc⟩ : ∃ c, c = s.data.toList[k]'(by rw [Array.length_toList]; exact hlt) := ⟨_, rfl⟩
      have hidx : ∀ W : World, (Instr.index 9 (.string s) (.int .i64 (k : Int))).run Tryd.prog W = .ok (.int .u8 (c.toNat : Int)) W := fun W => by
        have e : s[k]? = some c := by rw [hc]; simp [hlt]; rfl
        simp only [Instr.index, asIntOf, Sem.run_bind, Sem.run_pure, Result.andThen_ok, run_underlying Tryd.underlying9]
        rw [if_pos (by omega), Int.toNat_natCast]
        simp [e]
      have hx1 : ∀ W : World, (Instr.index 9 (.string ⟨#[48, 49, 50, 51, 52, 53, 54, 55, 56, 57, 97, 98, 99, 100, 101, 102]⟩) (.int .u8 ((c.toNat : Int) / 16))).run Tryd.prog W = .ok (.int .u8 ((hexC (c.toNat / 16)).toNat : Int)) W := fun W =>
        hex_at W _ _ _ (by omega) (by have := c.toNat_lt; omega) Tryd.underlying9
      have hx2 : ∀ W : World, (Instr.index 9 (.string ⟨#[48, 49, 50, 51, 52, 53, 54, 55, 56, 57, 97, 98, 99, 100, 101, 102]⟩) (.int .u8 (bits .and .u8 (c.toNat : Int) 15))).run Tryd.prog W = .ok (.int .u8 ((hexC (c.toNat % 16)).toNat : Int)) W := fun W =>
        hex_at W _ _ _ (and15 c) (by omega) Tryd.underlying9
      have hxl := hexL_take s.data.toList k (by rw [Array.length_toList]; exact hlt)
      rw [← hc] at hxl
      have HX : Hid (hexL (s.data.toList.take (k + 1)) = hexL (s.data.toList.take k) ++ hexP c) := hxl
      have hll : (hexL (s.data.toList.take k)).length = 2 * k := by rw [hexL_length, List.length_take, Array.length_toList]; show 2 * min k s.size = 2 * k; omega
      clear hc hxl
      go_wp2_with fail
      go_region_held3 (fun _ => True) (trivial)
        ((refine step_append_lies _ (by rfl) _ _ _ (by rfl) w.heap.size 5 i0 _ 1 1 Tryd.underlying32 hi hz0 hz1 hz2 rfl (by omega) _ (2 * k) _ (by rfl) ((hown.alloc _).drew) ⟨wr.heap.size, 0, none⟩ 2 2 [.int .u8 ((hexC (c.toNat / 16)).toNat : Int), .int .u8 ((hexC (c.toNat % 16)).toNat : Int)] (by rfl) (by rfl) (World.news_of_block (cs := #[.int .u8 ((hexC (c.toNat / 16)).toNat : Int), .int .u8 ((hexC (c.toNat % 16)).toNat : Int)]) (t := 5) (fr := (0, 0)) (heap_alloc_new wr _)) (by simp [Value.oneCell']) (by omega) (by unfold maxLen; omega) (by omega) (by have := hbel.size; simp; omega) (wr.heap.size + 1) (by simp) ?_; intro gg cap' w1 hown1 hgrow hat hlt1))
      all_goals
        clear hx1 hx2 hidx
        go_wp2
        go_roundw
        case rel =>
          refine ⟨k + 1, gg, cap', by omega, by go_num, rfl, ?_, ((hbel.alloc hbel.size _).drew).grown hgrow (by have := hbel.size; simp; omega) ?_⟩
          · rw [HX.out, List.map_append]; exact hown1
          · intro r hr
            exact ((hown.lt r) hr).1
        case measure => simp [intOf]; omega
    · have e : k = s.size := by omega
      have htk : s.data.toList.take k = s.data.toList := List.take_of_length_le (by rw [Array.length_toList, e]; exact Nat.le_refl _)
      rw [htk] at hown
      have hll : (hexL s.data.toList).length = 2 * k := by rw [hexL_length, Array.length_toList, e]; rfl
      have hconv := run_convert_bytes_back (P := Tryd.prog) wr 32 9 5 ⟨g, 0, none⟩ cap (hexL s.data.toList) Tryd.underlying32 Tryd.underlying5 Tryd.underlying9 (fun j hj => by
        rw [addr_add, hown.cellAt j (by omega), List.getElem?_map, List.getElem?_eq_getElem hj]; rfl)
      rw [hll] at hconv
      have hB : Hid (Below w.heap.size w wr) := hbel
      have i5 : ¬ (k : Int) < (s.size : Int) := by omega
      clear hown hbel htk hll hlt hk e
      go_wp2
      go_ret
      exact ⟨rfl, hB⟩
end Go.Proofs.YtaefnkaenhmekaaDoor
