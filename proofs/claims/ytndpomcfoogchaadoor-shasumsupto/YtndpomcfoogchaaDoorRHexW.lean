/- The contract of the document's Hex. -/
import Derived.Test.YtndpomcfoogchaaDoorHex
import Derived.Test.YtndpomcfoogchaaDoorHashW
import Derived.Deep.RegionHeld3
import Derived.Deep.AppendLies
import Derived.OwnWalk
namespace Go.Proofs.YtndpomcfoogchaaDoor
open Go.RowKit
theorem inf5 : (Tryd.prog.info? 5).map (fun i => (i.zero, i.size, i.bytes)) = some (some (.int .u8 0), 1, 1) := by kernel_rfl
set_option maxRecDepth 100000 in
set_option maxHeartbeats 1600000 in
theorem rhex_any (s : ByteArray) (hn : s.size ≤ 1048576) (w : World) :
    Calls Tryd.prog 11 #[.string s] w fun e w' => e = .returned (.string ⟨(hexL s.data.toList).toArray⟩) ∧ Below w.heap.size w w' := by
  obtain ⟨i0, hi, hz0, hz1, hz2⟩ := info_parts inf5
  have i1 : (s.size : Int) ≤ 1048576 := by omega
  go_enter Tryd.func11, Tryd.ntmps11
  go_wp2_with fail
  go_loopw [4, 5] (fun v i wr => ∃ k : Nat, k ≤ s.size ∧ i = .int .i64 k ∧ wr.ownsRow w.heap.size 5 1 v (2 * k) ((hexL (s.data.toList.take k)).map encB) ∧ Below w.heap.size w wr) (fun _ i _ => s.size - (intOf i).toNat)
  case atStart => exact ⟨0, by omega, rfl, World.ownsRow_nil _ _ _ _, Below.refl _ _⟩
  case round =>
    obtain ⟨k, hk, rfl, hown, hbel⟩ := hrel
    by_cases hlt : k < s.size
    · have j0 : (0 : Int) ≤ (k : Int) := by omega
      have j1 : (k : Int) < (s.size : Int) := by omega
      obtain ⟨c, hc⟩ : ∃ c, c = s.data.toList[k]'(by rw [Array.length_toList]; exact hlt) := ⟨_, rfl⟩
      have hidx : ∀ W : World, (Instr.index 9 (.string s) (.int .i64 (k : Int))).run Tryd.prog W = .ok (.int .u8 (c.toNat : Int)) W := fun W => by
        have e : s[k]? = some c := by rw [hc]; simp [hlt]; rfl
        simp only [Instr.index, asIntOf, Sem.run_bind, Sem.run_pure, Result.andThen_ok, run_underlying Tryd.underlying9]
        rw [if_pos (by omega), Int.toNat_natCast]
        simp [e]
      have hx1 : ∀ W : World, (Instr.index 9 (.string ⟨#[48, 49, 50, 51, 52, 53, 54, 55, 56, 57, 97, 98, 99, 100, 101, 102]⟩) (.int .u8 ((c.toNat : Int) / 16))).run Tryd.prog W = .ok (.int .u8 ((hexC (c.toNat / 16)).toNat : Int)) W := fun W =>
        hex_at W _ _ _ (by omega) (by have := c.toNat_lt; omega) Tryd.underlying9
      have hx2 : ∀ W : World, (Instr.index 9 (.string ⟨#[48, 49, 50, 51, 52, 53, 54, 55, 56, 57, 97, 98, 99, 100, 101, 102]⟩) (.int .u8 ((c.toNat : Int) % 16))).run Tryd.prog W = .ok (.int .u8 ((hexC (c.toNat % 16)).toNat : Int)) W := fun W =>
        hex_at W _ _ _ (by omega) (by omega) Tryd.underlying9
      have hxl := hexL_take s.data.toList k (by rw [Array.length_toList]; exact hlt)
      rw [← hc] at hxl
      have HX : Hid (hexL (s.data.toList.take (k + 1)) = hexL (s.data.toList.take k) ++ hexP c) := hxl
      have hll : (hexL (s.data.toList.take k)).length = 2 * k := by rw [hexL_length, List.length_take, Array.length_toList]; show 2 * min k s.size = 2 * k; omega
      have y1 : (0 : Int) ≤ (c.toNat : Int) := by omega
      have y2 : (c.toNat : Int) ≤ 255 := by have := c.toNat_lt; omega
      have t1 : (c.toNat : Int).tdiv 16 = (c.toNat : Int) / 16 := Int.tdiv_eq_ediv_of_nonneg y1
      have t2 : (c.toNat : Int).tmod 16 = (c.toNat : Int) % 16 := Int.tmod_eq_emod_of_nonneg y1
      have t3 : (c.toNat : Int) / 16 % 256 = (c.toNat : Int) / 16 := by omega
      have t4 : IntKind.u8.wrap ((c.toNat : Int) / 16) = (c.toNat : Int) / 16 := by simp [IntKind.wrap, IntKind.bits, IntKind.signed]; omega
      clear hc hxl
      go_wp2_with fail
      go_region_held3 (fun _ => True) (trivial)
        ((refine step_append_lies _ (by rfl) _ _ _ (by rfl) w.heap.size 5 i0 _ 1 1 Tryd.underlying39 hi hz0 hz1 hz2 rfl (by omega) u4 (2 * k) _ (by rfl) ((hown.alloc _).drew) ⟨wr.heap.size, 0, none⟩ 2 2 [.int .u8 ((hexC (c.toNat / 16)).toNat : Int), .int .u8 ((hexC (c.toNat % 16)).toNat : Int)] (by rfl) (by rfl) (World.news_of_block (cs := #[.int .u8 ((hexC (c.toNat / 16)).toNat : Int), .int .u8 ((hexC (c.toNat % 16)).toNat : Int)]) (t := 5) (fr := (0, 0)) (heap_alloc_new wr _)) (by simp [Value.oneCell']) (by omega) (by unfold maxLen; omega) (by omega) (by have := hbel.size; simp; omega) (wr.heap.size + 1) (by simp) ?_; intro gg cap' w1 hown1 hgrow hat hlt1))
      all_goals
        clear hx1 hx2 hidx t1 t2 t3 t4
        go_wp2
        go_roundw
        case rel =>
          refine ⟨k + 1, by omega, by go_num, ?_, ((hbel.alloc hbel.size _).drew).grown hgrow (by have := hbel.size; simp; omega) ?_⟩
          · rw [HX.out, List.map_append]; exact hown1
          · intro r hr
            exact ((hown.lt r) hr).1
        case measure => simp [intOf]; omega
    · have e : k = s.size := by omega
      have htk : s.data.toList.take k = s.data.toList := List.take_of_length_le (by rw [Array.length_toList, e]; exact Nat.le_refl _)
      rw [htk] at hown
      have hll : (hexL s.data.toList).length = 2 * k := by rw [hexL_length, Array.length_toList, e]; rfl
      have hB : Hid (Below w.heap.size w wr) := hbel
      have i5 : ¬ (k : Int) < (s.size : Int) := by omega
      by_cases hz : k = 0
      · have hv : u4 = .slice none 0 0 ∨ ∃ g cap, u4 = .slice (some ⟨g, 0, none⟩) 0 cap := by
          rcases hown.2 with ⟨h1, _⟩ | ⟨g, cap, cur, h1, _⟩
          · exact .inl h1
          · rw [hz] at h1; exact .inr ⟨g, cap, h1⟩
        have hnil : hexL s.data.toList = [] := List.eq_nil_of_length_eq_zero (by omega)
        have hcn : ∀ W : World, (convert 39 9 u4).run Tryd.prog W = .ok (.string ⟨#[]⟩) W := fun W => by
          rcases hv with rfl | ⟨g, cap, rfl⟩
          · rw [run_convert_bytes_string W 39 9 5 none 0 0 Tryd.underlying39 Tryd.underlying5 Tryd.underlying9]; rfl
          · exact run_convert_bytes_back (P := Tryd.prog) W 39 9 5 ⟨g, 0, none⟩ cap [] Tryd.underlying39 Tryd.underlying5 Tryd.underlying9 (fun j hj => by cases hj)
        have HN : Hid (hexL s.data.toList = []) := hnil
        clear hown hbel htk hll hlt hk e hnil hv hz
        go_wp2
        go_ret
        exact ⟨by rw [HN.out]; rfl, hB⟩
      · obtain ⟨g, cap, rfl, _, _⟩ := hown.form (by omega)
        have hconv := run_convert_bytes_back (P := Tryd.prog) wr 39 9 5 ⟨g, 0, none⟩ cap (hexL s.data.toList) Tryd.underlying39 Tryd.underlying5 Tryd.underlying9 (fun j hj => by
          rw [addr_add, hown.cellAt j (by omega), List.getElem?_map, List.getElem?_eq_getElem hj]; rfl)
        rw [hll] at hconv
        clear hown hbel htk hll hlt hk e hz
        go_wp2
        go_ret
        exact ⟨rfl, hB⟩
end Go.Proofs.YtndpomcfoogchaaDoor
