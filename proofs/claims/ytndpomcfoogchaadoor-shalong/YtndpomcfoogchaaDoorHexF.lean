/- The contract of sha.Hex for every text that can come in: its room is made at once. -/
import Derived.Test.YtndpomcfoogchaaDoorHex
import Derived.Test.YtndpomcfoogchaaDoorHashW
import Derived.Test.YtndpomcfoogchaaDoorGrow
import Derived.Deep.RegionHeld3
import Derived.Deep.AppendLies
import Derived.OwnWalk
namespace Go.Proofs.YtndpomcfoogchaaDoor
open Go.RowKit
/-- append where there is room, as one step of a statement whose order is left open -/
theorem step_append_in {P : Program} {ops : Array Oper} {o : Oper} {a : Act} {w : World} {K : Act → World → Prop} {Q : Exit → Act → World → Prop} {E : Prop} (hgd : o.guard = none) (s x : Operand) (t : TypeId)
    (ho : o.op = .call { callee := .builtin .append, args := #[s, x], argTypes := #[t, t] })
    (base : Nat) (i : TypeInfo) (ht : P.underlying t = some (.slice 5)) (hi : P.info? 5 = some i) (hsize : i.size = 1)
    (g cap n : Nat) (xs : List Value) (hs : a.eval s = .slice (some ⟨g, 0, none⟩) n cap) (hown : ownsG w base (.slice (some ⟨g, 0, none⟩) n cap) n xs)
    (ad : Addr) (m c : Nat) (news : List Value) (hx : a.eval x = .slice (some ad) m c) (hl : news.length = m) (hnews : ∀ j u, news[j]? = some u → w.cell? (ad.add j) = some u) (h1 : ∀ u ∈ news, u.oneCell' = true) (hroom : n + m ≤ cap)
    (h : ∀ w', ownsG w' base (.slice (some ⟨g, 0, none⟩) (n + m) cap) (n + m) (xs ++ news) → Below base w w' → K (a.put o.dst (.slice (some ⟨g, 0, none⟩) (n + m) cap)) w') :
    if Region.wanted o (yielded ops a.tmps) = true then Oper.wp P o a w K Q else E := by
  have hw : Region.wanted o (yielded ops a.tmps) = true := by simp [Region.wanted, hgd]
  rw [if_pos hw]
  obtain ⟨hxl, g', cap', cur, fz, hv, hbg, hg, hfz, hnc, hcm, hcs, htake⟩ := hown
  injection hv with e1 e2 e3
  injection e1 with e1
  injection e1 with e1
  subst e1 e3
  have hr := run_append_room_cells (P := P) w t o.type 5 i ht hi g 0 n cap ad m c news (by rw [hsize, hl]; omega) hnews h1 hroom (by
    intro j hj; rw [hsize, cell_of_row _ _ _ _ _ _ hg, Array.getElem?_eq_getElem (by omega)]; rfl) (by
    intro j hj; rw [hsize]; exact frozen_of_marks hg hfz (by omega))
  rw [hsize, show 0 + n * 1 = n from by omega] at hr
  have e : cur = (xs ++ ((cur.toList.drop n).take m ++ cur.toList.drop (n + m))).toArray := by
    apply Array.ext'
    rw [← htake]
    show cur.toList = cur.toList.take n ++ ((cur.toList.drop n).take m ++ cur.toList.drop (n + m))
    rw [← List.drop_drop, List.take_append_drop, List.take_append_drop]
  have hp : putAt cur n news = (xs ++ (news ++ cur.toList.drop (n + m))).toArray := by
    have := putAt_mid news xs ((cur.toList.drop n).take m) (cur.toList.drop (n + m)) (by rw [List.length_take, List.length_drop, Array.length_toList]; omega)
    rw [hxl, ← e] at this; exact this
  have hh := heap_setCells_any g 5 fz news n w cur hg
  rw [hp] at hh
  have hsz : ((xs ++ (news ++ cur.toList.drop (n + m))).toArray).size = cap := by simp [hxl, hl]; omega
  have hK := h _ ⟨by rw [List.length_append, hxl, hl], g, cap, _, fz, rfl, hbg, hh, by rw [hsz, ← hcs]; exact hfz, hroom, hcm, hsz, by
    show (xs ++ (news ++ cur.toList.drop (n + m))).take (n + m) = xs ++ news
    rw [← List.append_assoc, List.take_left' (by rw [List.length_append, hxl, hl])]⟩ (below_setCells _ _ hbg _ _ _)
  unfold Oper.wp
  simp [execOp, ho, resolve, invoke, builtin, hs, hx, hr, Result.andThen]
  exact hK
theorem ownsG_made (w : World) (cur : Array Value) (cap : Nat) (hm : cap ≤ maxLen) (hs : cur.size = cap) : ownsG (w.alloc (.cells cur 5)) w.heap.size (.slice (some ⟨w.heap.size, 0, none⟩) 0 cap) 0 [] :=
  ⟨rfl, w.heap.size, cap, cur, (0, 0), rfl, Nat.le_refl _, heap_alloc_new w _, .inl rfl, Nat.zero_le _, hm, hs, by simp⟩
theorem inf5f : (Tryd.prog.info? 5).map (fun i => (i.zero, i.size, i.bytes)) = some (some (.int .u8 0), 1, 1) := by kernel_rfl
set_option maxRecDepth 100000 in
set_option maxHeartbeats 1600000 in
theorem hexf_any (s : ByteArray) (hn : s.size ≤ 140737488351232) (w : World) :
    Calls Tryd.prog 10 #[.string s] w fun e w' => e = .returned (.string ⟨(hexL s.data.toList).toArray⟩) ∧ Below w.heap.size w w' := by
  obtain ⟨i0, hi, hz0, hz1, hz2⟩ := info_parts inf5f
  have hmk : ∀ u : World, (Instr.makeSlice 39 (.int .i64 0) (.int .i64 (2 * (s.size : Int)))).run Tryd.prog u =
      .ok (.slice (some ⟨u.heap.size, 0, none⟩) 0 (2 * s.size)) (u.alloc (.cells (madeCells #[.int .u8 0] (2 * s.size)) 5)) := fun u => by
    have h := run_make (P := Tryd.prog) u 39 5 i0 (.int .u8 0) Tryd.underlying39 hi hz0 .i64 .i64 0 (2 * (s.size : Int)) (by omega) (by omega) (by rw [hz2]; omega) (by omega)
    have e : (2 * (s.size : Int)).toNat = 2 * s.size := by omega
    rw [e] at h
    simpa [hz1, Value.cells] using h
  have i1 : (s.size : Int) ≤ 140737488351232 := by omega
  go_enter Tryd.func10, Tryd.ntmps10
  go_wp2_with fail
  have hst : ownsG (w.alloc (.cells (madeCells #[.int .u8 0] (2 * s.size)) 5)) w.heap.size (.slice (some ⟨w.heap.size, 0, none⟩) 0 (2 * s.size)) 0 [] :=
    ownsG_made w _ _ (by unfold maxLen; omega) (by simp [madeCells])
  have Hst : Hid (ownsG (w.alloc (.cells (madeCells #[.int .u8 0] (2 * s.size)) 5)) w.heap.size (.slice (some ⟨w.heap.size, 0, none⟩) 0 (2 * s.size)) 0 []) := hst
  clear hst hmk
  go_loopw [3, 11] (fun v i wr => ∃ k : Nat, k ≤ s.size ∧ i = .int .i64 k ∧ v = .slice (some ⟨w.heap.size, 0, none⟩) (2 * k) (2 * s.size) ∧ ownsG wr w.heap.size (.slice (some ⟨w.heap.size, 0, none⟩) (2 * k) (2 * s.size)) (2 * k) ((hexL (s.data.toList.take k)).map encB) ∧ Below w.heap.size w wr) (fun _ i _ => s.size - (intOf i).toNat)
  case atStart => exact ⟨0, by omega, rfl, rfl, Hst.out, (Below.refl _ _).alloc (Nat.le_refl _) _⟩
  case round =>
    clear Hst
    obtain ⟨k, hk, rfl, rfl, hown, hbel⟩ := hrel
    by_cases hlt : k < s.size
    · have j0 : (0 : Int) ≤ (k : Int) := by omega
      have j1 : (k : Int) < (s.size : Int) := by omega
      obtain ⟨c, hc⟩ : ∃ c, c = s.data.toList[k]'(by rw [Array.length_toList]; exact hlt) := ⟨_, rfl⟩
      have hidx : ∀ W : World, (Instr.index 9 (.string s) (.int .i64 (k : Int))).run Tryd.prog W = .ok (.int .u8 (c.toNat : Int)) W := fun W => by
        have e : s[k]? = some c := by rw [hc]; simp [hlt]; rfl
        simp only [Instr.index, asIntOf, Sem.run_bind, Sem.run_pure, Result.andThen_ok, run_underlying Tryd.underlying9]
        rw [if_pos (by omega), Int.toNat_natCast]
        simp [e]
      have hx1 : ∀ W : World, (Instr.index 9 (.string ⟨#[48, 49, 50, 51, 52, 53, 54, 55, 56, 57, 97, 98, 99, 100, 101, 102]⟩) (.int .u8 ((c.toNat : Int) / 16))).run Tryd.prog W = .ok (.int .u8 ((hexC (c.toNat / 16)).toNat : Int)) W := fun W =>
        hex_at W _ _ _ (by omega) (by have := c.toNat_lt; omega) Tryd.underlying9
      have hx2 : ∀ W : World, (Instr.index 9 (.string ⟨#[48, 49, 50, 51, 52, 53, 54, 55, 56, 57, 97, 98, 99, 100, 101, 102]⟩) (.int .u8 (bits .and .u8 (c.toNat : Int) 15))).run Tryd.prog W = .ok (.int .u8 ((hexC (c.toNat % 16)).toNat : Int)) W := fun W =>
        hex_at W _ _ _ (and15 c) (by omega) Tryd.underlying9
      have hxl := hexL_take s.data.toList k (by rw [Array.length_toList]; exact hlt)
      rw [← hc] at hxl
      have HX : Hid (hexL (s.data.toList.take (k + 1)) = hexL (s.data.toList.take k) ++ hexP c) := hxl
      have hll : (hexL (s.data.toList.take k)).length = 2 * k := by rw [hexL_length, List.length_take, Array.length_toList]; show 2 * min k s.size = 2 * k; omega
      clear hc hxl
      go_wp2_with fail
      go_region_held3 (fun _ => True) (trivial)
        ((refine step_append_in (by rfl) _ _ _ (by rfl) w.heap.size i0 Tryd.underlying39 hi hz1 w.heap.size (2 * s.size) (2 * k) _ (by rfl) (by exact hown.kept (fun q hq => heap_alloc_old _ _ hq)) ⟨wr.heap.size, 0, none⟩ 2 2 [.int .u8 ((hexC (c.toNat / 16)).toNat : Int), .int .u8 ((hexC (c.toNat % 16)).toNat : Int)] (by rfl) rfl (World.news_of_block (cs := #[.int .u8 ((hexC (c.toNat / 16)).toNat : Int), .int .u8 ((hexC (c.toNat % 16)).toNat : Int)]) (t := 5) (fr := (0, 0)) (heap_alloc_new wr _)) (by simp [Value.oneCell']) (by omega) ?_; intro w1 hown1 hb1))
      all_goals
        clear hx1 hx2 hidx
        go_wp2
        go_roundw
        case rel =>
          refine ⟨k + 1, by omega, by go_num, rfl, ?_, ((hbel.alloc hbel.size _).drew).trans hb1⟩
          rw [HX.out, List.map_append]; exact hown1
        case measure => simp [intOf]; omega
    · have e : k = s.size := by omega
      have htk : s.data.toList.take k = s.data.toList := List.take_of_length_le (by rw [Array.length_toList, e]; exact Nat.le_refl _)
      rw [htk] at hown
      have hll : (hexL s.data.toList).length = 2 * k := by rw [hexL_length, Array.length_toList, e]; rfl
      have hconv := run_convert_bytes_back (P := Tryd.prog) wr 39 9 5 ⟨w.heap.size, 0, none⟩ (2 * s.size) (hexL s.data.toList) Tryd.underlying39 Tryd.underlying5 Tryd.underlying9 (fun j hj => by
        rw [addr_add, hown.cell j (by omega), List.getElem?_map, List.getElem?_eq_getElem hj]; rfl)
      rw [hll] at hconv
      have hB : Hid (Below w.heap.size w wr) := hbel
      have i5 : ¬ (k : Int) < (s.size : Int) := by omega
      clear hown hbel htk hll hlt hk e
      go_wp2
      go_ret
      exact ⟨rfl, hB⟩
end Go.Proofs.YtndpomcfoogchaaDoor
