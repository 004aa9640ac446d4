/- Slices of variables that read as a list. | decl: words of types and of sections; which variables may be. | decl: which variables may be; Check of a program without statements. -/
import Derived.Test.YtldjiieckddhkaaGreatDoorMg12
import Derived.Test.YtldjiieckddhkaaGreatDoorMg16
namespace Go.Proofs.YtldjiieckddhkaaGreatDoor
open Go.RowKit
/-- a variable as its five cells have it -/
structure Vv where
  s : ByteArray
  ty : Int
  len : Int
  init : Int
  dir : Int
/-- the variables l lie at a place -/
def VvAt (w : World) (b off : Nat) (l : List Vv) : Prop :=
  ∀ i x, l[i]? = some x → w.cell? ⟨b, off + i * 5, none⟩ = some (.string x.s) ∧ w.cell? ⟨b, off + i * 5 + 1, none⟩ = some (.int .i64 x.ty) ∧ w.cell? ⟨b, off + i * 5 + 2, none⟩ = some (.int .i64 x.len) ∧ w.cell? ⟨b, off + i * 5 + 3, none⟩ = some (.int .i64 x.init) ∧ w.cell? ⟨b, off + i * 5 + 4, none⟩ = some (.int .i64 x.dir)
/-- a slice that reads as l -/
def VLst (w : World) (v : Value) (l : List Vv) : Prop :=
  ∃ (a : Option Addr) (b off cap : Nat), v = .slice a l.length cap ∧ (0 < l.length → b < w.heap.size ∧ a = some ⟨b, off, none⟩) ∧ VvAt w b off l
theorem VLst.below {w w' : World} {v : Value} {l : List Vv} {B : Nat} (h : VLst w v l) (hb : Below B w w') (hB : w.heap.size ≤ B) : VLst w' v l := by
  obtain ⟨a, b, off, cap, rfl, hb0, hI⟩ := h
  refine ⟨a, b, off, cap, rfl, fun h => ⟨by have := hb.size; have := (hb0 h).1; omega, (hb0 h).2⟩, fun i x hx => ?_⟩
  have hlt : b < B := by have := (hb0 (by have := (List.getElem?_eq_some_iff.1 hx).1; omega)).1; omega
  obtain ⟨h1, h2, h3, h4, h5⟩ := hI i x hx
  exact ⟨(hb.cell (p := ⟨b, _, none⟩) hlt).trans h1, (hb.cell (p := ⟨b, _, none⟩) hlt).trans h2, (hb.cell (p := ⟨b, _, none⟩) hlt).trans h3, (hb.cell (p := ⟨b, _, none⟩) hlt).trans h4, (hb.cell (p := ⟨b, _, none⟩) hlt).trans h5⟩
def vrV (x : Vv) : Vr := ⟨x.s.data.toList, x.ty, x.len, x.init, x.dir⟩
theorem VLst.nil (w : World) : VLst w (.slice none 0 0) [] := ⟨none, 0, 0, 0, rfl, fun h => absurd h (Nat.lt_irrefl 0), fun i x hx => by cases hx⟩
end Go.Proofs.YtldjiieckddhkaaGreatDoor
namespace Go.Proofs.YtldjiieckddhkaaGreatDoor
open Go.RowKit
def twFind (n : Int) : Option (Bs × Int) := twRows.find? fun r => decide (r.2 = n)
def swFind (n : Int) : Option (Bs × Int) := swRows.find? fun r => decide (r.2 = n)
def wRes (o : Option (Bs × Int)) : Value := match o with
  | some r => .tuple #[.string ⟨r.1.toArray⟩, .bool true]
  | none => .tuple #[.string ⟨#[]⟩, .bool false]
theorem tw_some (n : Int) : (twFind n).isSome = tyW n := by
  unfold twFind tyW twRows
  rw [List.isSome_find?]
  simp only [List.any_cons, List.any_nil]
  rw [Bool.eq_iff_iff]; simp; omega
theorem sw_some (n : Int) : (swFind n).isSome = (decide (0 ≤ n) && decide (n ≤ 2)) := by
  unfold swFind swRows
  rw [List.isSome_find?]
  simp only [List.any_cons, List.any_nil]
  rw [Bool.eq_iff_iff]; simp; omega
theorem size206' : (Tryz.prog.info? 206).map (·.size) = some 28 := by kernel_rfl
theorem size206 : (Tryz.prog.info? 206).map (·.size) = some twTab.length := size206'
theorem tw_cells (k : Nat) (h : k < 14) : twTab.toArray.extract (k * 2) (k * 2 + 2) = #[.string ⟨(twRows[k]'h).1.toArray⟩, .int .i64 (twRows[k]'h).2] := by
  have hk : k = 0 ∨ k = 1 ∨ k = 2 ∨ k = 3 ∨ k = 4 ∨ k = 5 ∨ k = 6 ∨ k = 7 ∨ k = 8 ∨ k = 9 ∨ k = 10 ∨ k = 11 ∨ k = 12 ∨ k = 13 := by omega
  rcases hk with rfl | rfl | rfl | rfl | rfl | rfl | rfl | rfl | rfl | rfl | rfl | rfl | rfl | rfl <;> rfl
theorem tw_idx (k : Nat) (h : k < 14) (W : World) : (Instr.index 206 (.agg twTab.toArray) (.int .i64 (k : Int))).run Tryz.prog W = .ok (.agg #[.string ⟨(twRows[k]'h).1.toArray⟩, .int .i64 (twRows[k]'h).2]) W :=
  index_row Tryz.underlying206 (fun _ => Tryz.isAgg205 _) (fun _ => Tryz.sizeOf205 _) _ k h _ (tw_cells k h) W
theorem size209' : (Tryz.prog.info? 209).map (·.size) = some 6 := by kernel_rfl
theorem size209 : (Tryz.prog.info? 209).map (·.size) = some swTab.length := size209'
theorem sw_cells (k : Nat) (h : k < 3) : swTab.toArray.extract (k * 2) (k * 2 + 2) = #[.string ⟨(swRows[k]'h).1.toArray⟩, .int .i64 (swRows[k]'h).2] := by
  have hk : k = 0 ∨ k = 1 ∨ k = 2 := by omega
  rcases hk with rfl | rfl | rfl <;> rfl
theorem sw_idx (k : Nat) (h : k < 3) (W : World) : (Instr.index 209 (.agg swTab.toArray) (.int .i64 (k : Int))).run Tryz.prog W = .ok (.agg #[.string ⟨(swRows[k]'h).1.toArray⟩, .int .i64 (swRows[k]'h).2]) W :=
  index_row Tryz.underlying209 (fun _ => Tryz.isAgg208 _) (fun _ => Tryz.sizeOf208 _) _ k h _ (sw_cells k h) W
set_option maxRecDepth 100000 in
set_option maxHeartbeats 1600000 in
theorem wordOfType_any (n : Int) (w : World) (hg : TabAt w 4 twTab) : Calls Tryz.prog 166 #[.int .i64 n] w fun e w' => e = .returned (wRes (twFind n)) ∧ Below w.heap.size w w' := by
  have ix : Hid (∀ (k : Nat) (h : k < 14) (W : World), (Instr.index 206 (.agg twTab.toArray) (.int .i64 (k : Int))).run Tryz.prog W = .ok (.agg #[.string ⟨(twRows[k]'h).1.toArray⟩, .int .i64 (twRows[k]'h).2]) W) := tw_idx
  obtain ⟨KT, hT⟩ : ∃ KT, Value.agg twTab.toArray = KT := ⟨_, rfl⟩
  rw [hT] at ix
  go_enter Tryz.func166, Tryz.ntmps166
  go_wp2_with ((with_reducible refine at_load (ty := 206) ?_); go_must (refine load_tab (b := 4) (t := twTab) (T := KT) rfl hg hT Tryz.underlying206 rfl size206 ?_))
  clear hg hT
  go_loopw [7] (fun i wr => ∃ k : Nat, k ≤ 14 ∧ i = .int .i64 (k : Int) ∧ Hid (Below w.heap.size w wr ∧ (twRows.drop k).find? (fun r => decide (r.2 = n)) = twFind n)) (fun i _ => 14 - (intOf i).toNat)
  case atStart => exact ⟨0, by omega, rfl, Below.refl _ _, rfl⟩
  case round =>
    obtain ⟨k, hk, rfl, hh⟩ := hrel
    have HB := hide hh.out.1
    have hf := hh.out.2
    clear hh
    by_cases hlt : k < 14
    · have x0 := ix.out k hlt
      have i1 : (k : Int) < 14 := by omega
      rw [List.drop_eq_getElem_cons (show k < twRows.length from hlt), List.find?_cons] at hf
      generalize (twRows[k]'hlt) = r at *
      obtain ⟨r0, r1⟩ := r
      simp only [] at x0 hf
      obtain ⟨u, hu⟩ : ∃ u : ByteArray, u = ⟨r0.toArray⟩ := ⟨_, rfl⟩
      rw [← hu] at x0
      have HU := hide hu
      have zr := HB.out.size
      have B1 := hide (HB.out.alloc zr (.cells #[.string u, .int .i64 r1] 205))
      clear ix hu
      by_cases he : r1 = n
      · rw [decide_eq_true he] at hf
        have HF := hide hf
        subst he
        clear hf
        go_wp2
        go_ret2
        exact ⟨by rw [← HF.out, HU.out]; rfl, B1.out⟩
      · rw [decide_eq_false he] at hf
        have HF := hide hf
        have hen : (r1 == n) = false := by rw [beq_eq_false_iff_ne]; exact he
        clear hf he
        go_wp2
        go_roundw
        case rel => exact ⟨k + 1, by omega, by go_num, B1.out, HF.out⟩
        case measure => simp [intOf]; omega
    · obtain rfl : k = 14 := by omega
      have HF : Hid (twFind n = none) := hf.symm
      clear hf ix
      go_wp2
      go_ret2
      exact ⟨by rw [HF.out]; rfl, HB.out⟩
set_option maxRecDepth 100000 in
set_option maxHeartbeats 1600000 in
theorem wordOfDir_any (n : Int) (w : World) (hg : TabAt w 5 swTab) : Calls Tryz.prog 167 #[.int .i64 n] w fun e w' => e = .returned (wRes (swFind n)) ∧ Below w.heap.size w w' := by
  have ix : Hid (∀ (k : Nat) (h : k < 3) (W : World), (Instr.index 209 (.agg swTab.toArray) (.int .i64 (k : Int))).run Tryz.prog W = .ok (.agg #[.string ⟨(swRows[k]'h).1.toArray⟩, .int .i64 (swRows[k]'h).2]) W) := sw_idx
  obtain ⟨KT, hT⟩ : ∃ KT, Value.agg swTab.toArray = KT := ⟨_, rfl⟩
  rw [hT] at ix
  go_enter Tryz.func167, Tryz.ntmps167
  go_wp2_with ((with_reducible refine at_load (ty := 209) ?_); go_must (refine load_tab (b := 5) (t := swTab) (T := KT) rfl hg hT Tryz.underlying209 rfl size209 ?_))
  clear hg hT
  go_loopw [7] (fun i wr => ∃ k : Nat, k ≤ 3 ∧ i = .int .i64 (k : Int) ∧ Hid (Below w.heap.size w wr ∧ (swRows.drop k).find? (fun r => decide (r.2 = n)) = swFind n)) (fun i _ => 3 - (intOf i).toNat)
  case atStart => exact ⟨0, by omega, rfl, Below.refl _ _, rfl⟩
  case round =>
    obtain ⟨k, hk, rfl, hh⟩ := hrel
    have HB := hide hh.out.1
    have hf := hh.out.2
    clear hh
    by_cases hlt : k < 3
    · have x0 := ix.out k hlt
      have i1 : (k : Int) < 3 := by omega
      rw [List.drop_eq_getElem_cons (show k < swRows.length from hlt), List.find?_cons] at hf
      generalize (swRows[k]'hlt) = r at *
      obtain ⟨r0, r1⟩ := r
      simp only [] at x0 hf
      obtain ⟨u, hu⟩ : ∃ u : ByteArray, u = ⟨r0.toArray⟩ := ⟨_, rfl⟩
      rw [← hu] at x0
      have HU := hide hu
      have zr := HB.out.size
      have B1 := hide (HB.out.alloc zr (.cells #[.string u, .int .i64 r1] 208))
      clear ix hu
      by_cases he : r1 = n
      · rw [decide_eq_true he] at hf
        have HF := hide hf
        subst he
        clear hf
        go_wp2
        go_ret2
        exact ⟨by rw [← HF.out, HU.out]; rfl, B1.out⟩
      · rw [decide_eq_false he] at hf
        have HF := hide hf
        have hen : (r1 == n) = false := by rw [beq_eq_false_iff_ne]; exact he
        clear hf he
        go_wp2
        go_roundw
        case rel => exact ⟨k + 1, by omega, by go_num, B1.out, HF.out⟩
        case measure => simp [intOf]; omega
    · obtain rfl : k = 3 := by omega
      have HF : Hid (swFind n = none) := hf.symm
      clear hf ix
      go_wp2
      go_ret2
      exact ⟨by rw [HF.out]; rfl, HB.out⟩
theorem isValue_any (t : Int) (w : World) (hg : TabAt w 0 spanTab) : Calls Tryz.prog 175 #[.int .i64 t] w fun e w' => e = .returned (.bool (fit6 t 0)) ∧ w' = w := by
  have c := fits_all t 0 w hg
  clear hg
  go_enter Tryz.func175, Tryz.ntmps175
  go_wp2_with fail
  refine c.mono ?_
  rintro e w1 ⟨rfl, rfl⟩
  go_wp2
  go_ret
  exact ⟨rfl, rfl⟩
end Go.Proofs.YtldjiieckddhkaaGreatDoor
namespace Go.Proofs.YtldjiieckddhkaaGreatDoor
open Go.RowKit
abbrev vA (s : ByteArray) (t l i d : Int) : Value := .agg #[.string s, .int .i64 t, .int .i64 l, .int .i64 i, .int .i64 d]
set_option maxRecDepth 100000 in
theorem isSingle_any (s : ByteArray) (t l i d : Int) (w : World) (hg : Glo w) : Calls Tryz.prog 170 #[.agg #[.string s, .int .i64 t, .int .i64 l, .int .i64 i, .int .i64 d]] w fun e w' => e = .returned (.bool (decide (l = 0) && fit6 t 0)) ∧ Below w.heap.size w w' := by
  have B0 := hide ((Below.refl w.heap.size w).alloc (Nat.le_refl _) (.cells #[.string s, .int .i64 t, .int .i64 l, .int .i64 i, .int .i64 d] 50))
  have c := isValue_any t _ (hg.below B0.out hg.lt).span
  clear hg
  by_cases h : l = 0
  · subst h
    go_enter Tryz.func170, Tryz.ntmps170
    go_wp2_with fail
    refine c.mono ?_
    rintro e w1 ⟨rfl, rfl⟩
    go_wp2
    go_ret
    exact ⟨ret_bool (by simp), B0.out⟩
  · have h0 : (l == 0) = false := by rw [beq_eq_false_iff_ne]; exact h
    have HD := hide (decide_eq_false h)
    clear h c
    go_enter Tryz.func170, Tryz.ntmps170
    go_wp2
    go_ret
    exact ⟨ret_bool (by rw [HD.out]; simp), B0.out⟩
set_option maxRecDepth 100000 in
theorem lenMayBe_any (s : ByteArray) (t l i d : Int) (w : World) (hg : Glo w) : Calls Tryz.prog 168 #[.agg #[.string s, .int .i64 t, .int .i64 l, .int .i64 i, .int .i64 d]] w fun e w' => e = .returned (.bool (decide (l = 0) || (decide (0 < l) && (decide (l ≤ 32) && fit6 t 0)))) ∧ Below w.heap.size w w' := by
  have B0 := hide ((Below.refl w.heap.size w).alloc (Nat.le_refl _) (.cells #[.string s, .int .i64 t, .int .i64 l, .int .i64 i, .int .i64 d] 50))
  have c := isValue_any t _ (hg.below B0.out hg.lt).span
  clear hg
  by_cases h : l = 0
  · subst h
    clear c
    go_enter Tryz.func168, Tryz.ntmps168
    go_wp2
    go_ret
    exact ⟨ret_bool (by simp), B0.out⟩
  · have h0 : (l == 0) = false := by rw [beq_eq_false_iff_ne]; exact h
    have HD := hide (decide_eq_false h)
    by_cases h1 : 0 < l
    · by_cases h2 : l ≤ 32
      · have HE := hide (And.intro (decide_eq_true h1) (decide_eq_true h2))
        clear h
        go_enter Tryz.func168, Tryz.ntmps168
        go_wp2_with fail
        refine c.mono ?_
        rintro e w1 ⟨rfl, rfl⟩
        go_wp2
        go_ret
        exact ⟨ret_bool (by rw [HD.out, HE.out.1, HE.out.2]; simp), B0.out⟩
      · have HE := hide (decide_eq_false h2)
        have h2' : 32 < l := by omega
        clear h c h2
        go_enter Tryz.func168, Tryz.ntmps168
        go_wp2
        go_ret
        exact ⟨ret_bool (by rw [HD.out, HE.out]; simp), B0.out⟩
    · have HE := hide (decide_eq_false h1)
      have h1' : l ≤ 0 := by omega
      clear h c h1
      go_enter Tryz.func168, Tryz.ntmps168
      go_wp2
      go_ret
      exact ⟨ret_bool (by rw [HD.out, HE.out]; simp), B0.out⟩
def fstB (t l i : Int) : Bool := if decide (l = 0) && fit6 t 0 then fit6 t i && (decide (t ≠ 4) || decide (0 ≤ i)) else decide (i = 0)
set_option maxRecDepth 100000 in
theorem firstMayBe_any (s : ByteArray) (t l i d : Int) (w : World) (hg : Glo w) : Calls Tryz.prog 169 #[.agg #[.string s, .int .i64 t, .int .i64 l, .int .i64 i, .int .i64 d]] w fun e w' => e = .returned (.bool (fstB t l i)) ∧ Below w.heap.size w w' := by
  have B0 := hide ((Below.refl w.heap.size w).alloc (Nat.le_refl _) (.cells #[.string s, .int .i64 t, .int .i64 l, .int .i64 i, .int .i64 d] 50))
  have hg1 := hg.below B0.out hg.lt
  have c := isSingle_any s t l i d _ hg1
  have C2 : Hid (∀ W, Below (w.heap.size + 1) (w.alloc (.cells #[.string s, .int .i64 t, .int .i64 l, .int .i64 i, .int .i64 d] 50)) W → Calls Tryz.prog 19 #[.int .i64 t, .int .i64 i] W fun e w' => e = .returned (.bool (fit6 t i)) ∧ w' = W) := fun W hW => fits_all t i W (hg1.below hW (by have := hg.lt; omega)).span
  have HFB : Hid (fstB t l i = if decide (l = 0) && fit6 t 0 then fit6 t i && (decide (t ≠ 4) || decide (0 ≤ i)) else decide (i = 0)) := rfl
  clear hg hg1
  generalize fstB t l i = FB at *
  generalize (decide (l = 0) && fit6 t 0) = SB at *
  go_enter Tryz.func169, Tryz.ntmps169
  go_wp2_with fail
  refine c.mono ?_
  rintro e w1 ⟨rfl, hb⟩
  clear c
  have hb' : Below (w.heap.size + 1) (w.alloc (.cells #[.string s, .int .i64 t, .int .i64 l, .int .i64 i, .int .i64 d] 50)) w1 := by rw [World.size_alloc] at hb; exact hb
  have c2 := C2.out w1 hb'
  have HB := hide (B0.out.trans (hb'.mono (by omega)))
  have d1 : w1.cell? ⟨w.heap.size, 1, none⟩ = some (.int .i64 t) := (hb'.cell (p := ⟨w.heap.size, 1, none⟩) (by show w.heap.size < w.heap.size + 1; omega)).trans (by rw [Lib.cell_of_heap (heap_alloc_new w _)]; rfl)
  have d3 : w1.cell? ⟨w.heap.size, 3, none⟩ = some (.int .i64 i) := (hb'.cell (p := ⟨w.heap.size, 3, none⟩) (by show w.heap.size < w.heap.size + 1; omega)).trans (by rw [Lib.cell_of_heap (heap_alloc_new w _)]; rfl)
  clear hb hb' C2 B0
  cases SB with
  | false =>
    clear c2
    go_wp2
    go_ret
    exact ⟨ret_bool (by rw [HFB.out, Bool.eq_iff_iff]; simp), HB.out⟩
  | true =>
    go_wp2_with fail
    refine c2.mono ?_
    rintro e w2 ⟨rfl, rfl⟩
    clear c2
    cases hf : fit6 t i with
    | false =>
      rw [hf] at HFB
      go_wp2
      go_ret
      exact ⟨ret_bool (by rw [HFB.out, Bool.eq_iff_iff]; simp), HB.out⟩
    | true =>
      rw [hf] at HFB
      by_cases h4 : t = 4
      · subst h4
        go_wp2
        go_ret
        exact ⟨ret_bool (by rw [HFB.out, Bool.eq_iff_iff]; simp), HB.out⟩
      · have hn : (t != 4) = true := by rw [bne_iff_ne]; exact h4
        have HD := hide (decide_eq_true h4)
        clear h4
        go_wp2
        go_ret
        exact ⟨ret_bool (by rw [HFB.out, HD.out]; simp), HB.out⟩
theorem varB_eq (s : ByteArray) (t l i d : Int) : varB ⟨s.data.toList, t, l, i, d⟩ = (nameB s.data.toList && (tyW t && ((decide (0 ≤ d) && decide (d ≤ 2)) && ((decide (l = 0) || (decide (0 < l) && (decide (l ≤ 32) && fit6 t 0))) && (fstB t l i && (decide (d = 0) || (decide (l = 0) && fit6 t 0))))))) := rfl
theorem wRes_form (o : Option (Bs × Int)) : ∃ u, wRes o = .tuple #[.string u, .bool o.isSome] := by
  cases o with
  | none => exact ⟨_, rfl⟩
  | some r => exact ⟨_, rfl⟩
set_option maxRecDepth 100000 in
set_option maxHeartbeats 1600000 in
theorem varMayBe_any (s : ByteArray) (t l i d : Int) (w : World) (hg : Glo w) : Calls Tryz.prog 157 #[.agg #[.string s, .int .i64 t, .int .i64 l, .int .i64 i, .int .i64 d]] w fun e w' => e = .returned (.bool (varB ⟨s.data.toList, t, l, i, d⟩)) ∧ Below w.heap.size w w' := by
  obtain ⟨W0, hW0⟩ : ∃ W0, W0 = w.alloc (.cells #[.string s, .int .i64 t, .int .i64 l, .int .i64 i, .int .i64 d] 50) := ⟨_, rfl⟩
  have B0 : Below w.heap.size w W0 := by rw [hW0]; exact (Below.refl w.heap.size w).alloc (Nat.le_refl _) _
  have hz : W0.heap.size = w.heap.size + 1 := by rw [hW0, World.size_alloc]
  have hg0 := hg.below B0 hg.lt
  have hcell : ∀ j v, (#[.string s, .int .i64 t, .int .i64 l, .int .i64 i, .int .i64 d] : Array Value)[j]? = some v → W0.cell? ⟨w.heap.size, j, none⟩ = some v := fun j v h => by
    rw [hW0, Lib.cell_of_heap (heap_alloc_new w _)]; exact h
  have G : Hid (∀ W, Below (w.heap.size + 1) W0 W → Glo W ∧ Below w.heap.size w W ∧ (∀ j v, (#[.string s, .int .i64 t, .int .i64 l, .int .i64 i, .int .i64 d] : Array Value)[j]? = some v → W.cell? ⟨w.heap.size, j, none⟩ = some v)) := fun W hW =>
    ⟨hg0.below hW (by have := hg.lt; omega), B0.trans (hW.mono (by omega)), fun j v h => (hW.cell (p := ⟨w.heap.size, j, none⟩) (by show w.heap.size < w.heap.size + 1; omega)).trans (hcell j v h)⟩
  have HV := hide (varB_eq s t l i d)
  generalize varB ⟨s.data.toList, t, l, i, d⟩ = VB at *
  have c1 := wordOfType_any t W0 hg0.tw
  obtain ⟨u1, hu1⟩ := wRes_form (twFind t)
  rw [tw_some] at hu1
  rw [hu1] at c1
  obtain ⟨u2, hu2⟩ := wRes_form (swFind d)
  rw [sw_some] at hu2
  have HU2 := hide hu2
  have BZ := hide (Below.refl (w.heap.size + 1) W0)
  rw [hz] at c1
  have HW0 := hide hW0
  have HZ := hide hz
  clear hcell hg0 B0 hg hu1 hu2 hz
  go_enter Tryz.func157, Tryz.ntmps157
  go_wp2_with fail
  rw [← HW0.out]
  refine c1.mono ?_
  rintro e w1 ⟨rfl, hb1⟩
  have BZ1 := hide hb1
  clear c1 hb1
  obtain ⟨g1, -, k1⟩ := G.out w1 BZ1.out
  have q4 := k1 4 _ rfl
  have c2 := wordOfDir_any d w1 g1.sw
  rw [HU2.out] at c2
  clear g1 k1
  go_wp2_with fail
  refine c2.mono ?_
  rintro e w2 ⟨rfl, hb2⟩
  have BZ2 := hide (BZ1.out.trans (hb2.mono (HZ.out ▸ BZ1.out.size)))
  clear c2 hb2 q4 BZ1
  obtain ⟨g2, -, k2⟩ := G.out w2 BZ2.out
  have q0 := k2 0 _ rfl
  have c3 := eName_any s.data.toList w2 g2.kw
  rw [text_back] at c3
  clear g2 k2
  generalize tyW t = TW at *
  generalize (decide (0 ≤ d) && decide (d ≤ 2)) = DW at *
  generalize nameB s.data.toList = NB at *
  go_wp2_with fail
  refine c3.mono ?_
  rintro e w3 ⟨rfl, rfl⟩
  clear c3 q0
  cases hno : (NB && (TW && DW)) with
  | false =>
    have HF : Hid (VB = false) := by
      show _ = _
      rw [HV.out]
      cases NB <;> cases TW <;> cases DW <;> first | rfl | exact absurd hno (by decide)
    have HB := hide (G.out _ BZ2.out).2.1
    clear HV
    cases NB <;> cases TW <;> cases DW
    all_goals first
      | exact absurd hno (by decide)
      | (clear hno; go_wp2; go_ret; exact ⟨ret_bool HF.out.symm, HB.out⟩)
  | true =>
    obtain ⟨rfl, rfl, rfl⟩ : NB = true ∧ TW = true ∧ DW = true := by cases NB <;> cases TW <;> cases DW <;> first | exact ⟨rfl, rfl, rfl⟩ | exact absurd hno (by decide)
    clear hno
    obtain ⟨g3, -, k3⟩ := G.out _ BZ2.out
    have q0 := k3 0 _ rfl
    have q1 := k3 1 _ rfl
    have q2 := k3 2 _ rfl
    have q3 := k3 3 _ rfl
    have q4 := k3 4 _ rfl
    have c4 := lenMayBe_any s t l i d _ g3
    clear k3 g3
    generalize (decide (l = 0) || (decide (0 < l) && (decide (l ≤ 32) && fit6 t 0))) = LB at *
    go_wp2_with fail
    refine c4.mono ?_
    rintro e w4 ⟨rfl, hb4⟩
    have BZ4 := hide (BZ2.out.trans (hb4.mono (HZ.out ▸ BZ2.out.size)))
    clear c4 hb4 q0 q1 q2 q3 q4 BZ2
    cases LB with
    | false =>
      have HF : Hid (VB = false) := by show _ = _; rw [HV.out]; simp
      have HB := hide (G.out _ BZ4.out).2.1
      go_wp2; go_ret; exact ⟨ret_bool HF.out.symm, HB.out⟩
    | true =>
      obtain ⟨g3, -, k3⟩ := G.out _ BZ4.out
      have q0 := k3 0 _ rfl
      have q1 := k3 1 _ rfl
      have q2 := k3 2 _ rfl
      have q3 := k3 3 _ rfl
      have q4 := k3 4 _ rfl
      have c5 := firstMayBe_any s t l i d _ g3
      clear k3 g3
      generalize fstB t l i = FB at *
      go_wp2_with fail
      refine c5.mono ?_
      rintro e w5 ⟨rfl, hb5⟩
      have BZ5 := hide (BZ4.out.trans (hb5.mono (HZ.out ▸ BZ4.out.size)))
      clear c5 hb5 q0 q1 q2 q3 q4 BZ4
      cases FB with
      | false =>
        have HF : Hid (VB = false) := by show _ = _; rw [HV.out]; simp
        have HB := hide (G.out _ BZ5.out).2.1
        go_wp2; go_ret; exact ⟨ret_bool HF.out.symm, HB.out⟩
      | true =>
        obtain ⟨g3, -, k3⟩ := G.out _ BZ5.out
        have q0 := k3 0 _ rfl
        have q1 := k3 1 _ rfl
        have q2 := k3 2 _ rfl
        have q3 := k3 3 _ rfl
        have q4 := k3 4 _ rfl
        by_cases hd : d = 0
        · have HF : Hid (VB = true) := by show _ = _; rw [HV.out, decide_eq_true hd]; rfl
          have HB := hide (G.out _ BZ5.out).2.1
          clear g3 k3 HV
          subst hd
          go_wp2; go_ret; exact ⟨ret_bool HF.out.symm, HB.out⟩
        · have c6 := isSingle_any s t l i d _ g3
          have hd' : (d == 0) = false := by rw [beq_eq_false_iff_ne]; exact hd
          have HF : Hid (VB = (decide (l = 0) && fit6 t 0)) := by show _ = _; rw [HV.out, decide_eq_false hd]; simp
          clear k3 g3 HV hd
          generalize (decide (l = 0) && fit6 t 0) = SB at *
          go_wp2_with fail
          refine c6.mono ?_
          rintro e w6 ⟨rfl, hb6⟩
          have HB := hide (G.out _ (BZ5.out.trans (hb6.mono (HZ.out ▸ BZ5.out.size)))).2.1
          clear c6 hb6 q0 q1 q2 q3 q4
          go_wp2; go_ret; exact ⟨ret_bool (by rw [HF.out]), HB.out⟩
set_option maxRecDepth 100000 in
set_option maxHeartbeats 1600000 in
theorem varsMayBe_any (v : Value) (l : List Vv) (w : World) (hL : VLst w v l) (hlen : l.length ≤ 4398046510976) (hg : Glo w) : Calls Tryz.prog 136 #[v] w fun e w' => e = .returned (.bool (decide (l.length ≤ 64) && (l.map vrV).all varB)) ∧ Below w.heap.size w w' := by
  obtain ⟨a, b, off, cap, rfl, hA, hI⟩ := hL
  by_cases h5 : 64 < l.length
  · have HE : Hid ((decide (l.length ≤ 64) && (l.map vrV).all varB) = false) := by show _ = _; rw [decide_eq_false (by omega)]; rfl
    have i1 : (64 : Int) < (l.length : Int) := by omega
    have i2 : (l.length : Int) ≤ 4398046510976 := by omega
    clear hA hI hg h5 hlen
    generalize (decide (l.length ≤ 64) && (l.map vrV).all varB) = R at *
    generalize l.length = N at *
    go_enter Tryz.func136, Tryz.ntmps136
    go_wp2
    go_ret
    exact ⟨ret_bool HE.out.symm, Below.refl _ _⟩
  have HE : Hid ((decide (l.length ≤ 64) && (l.map vrV).all varB) = (l.map vrV).all varB) := by show _ = _; rw [decide_eq_true (by omega)]; rfl
  have HA := hide hA
  have HI := hide hI
  have HG := hide hg
  generalize (decide (l.length ≤ 64) && (l.map vrV).all varB) = R at *
  obtain ⟨N, hN⟩ : ∃ N, N = l.length := ⟨_, rfl⟩
  have HN := hide hN
  rw [← hN] at h5 ⊢
  have n5 : ¬ (64 : Int) < (N : Int) := by omega
  have n0 : (0 : Int) ≤ (N : Int) := by omega
  clear hN hA hI hg hlen
  go_enter Tryz.func136, Tryz.ntmps136
  go_wp2_with fail
  go_loopw [10] (fun i wr => ∃ (k : Nat), k ≤ N ∧ i = .int .i64 (k : Int) ∧ Hid ((∀ p ∈ (l.map vrV).take k, varB p = true) ∧ Below w.heap.size w wr)) (fun i _ => N - (intOf i).toNat)
  case atStart => exact ⟨0, by omega, rfl, fun p hp => by simp at hp, Below.refl _ _⟩
  case round =>
    obtain ⟨k, hk, rfl, hh⟩ := hrel
    have HM := hide hh.out.1
    have HB := hide hh.out.2
    clear hh
    by_cases hlt : k < N
    · have j1 : (k : Int) < (N : Int) := by omega
      have j0 : (0 : Int) ≤ (k : Int) := by omega
      obtain ⟨y, hy⟩ : ∃ y, l[k]? = some y := ⟨_, List.getElem?_eq_getElem (by rw [← HN.out]; exact hlt)⟩
      have HY : Hid ((l.map vrV)[k]? = some (vrV y)) := by show _ = _; rw [List.getElem?_map, hy]; rfl
      obtain ⟨hbw, rfl⟩ := HA.out (by rw [← HN.out]; omega)
      obtain ⟨q0, q1, q2, q3, q4⟩ := HI.out k y hy
      have c0 := (HB.out.cell (p := ⟨b, off + k * 5, none⟩) hbw).trans q0
      have c1 := (HB.out.cell (p := ⟨b, off + k * 5 + 1, none⟩) hbw).trans q1
      have c2 := (HB.out.cell (p := ⟨b, off + k * 5 + 2, none⟩) hbw).trans q2
      have c3 := (HB.out.cell (p := ⟨b, off + k * 5 + 3, none⟩) hbw).trans q3
      have c4 := (HB.out.cell (p := ⟨b, off + k * 5 + 4, none⟩) hbw).trans q4
      clear q0 q1 q2 q3 q4 hy
      have zr := HB.out.size
      have B1 := HB.out.alloc zr (.cells #[.string y.s, .int .i64 y.ty, .int .i64 y.len, .int .i64 y.init, .int .i64 y.dir] 50)
      have m2 := varMayBe_any y.s y.ty y.len y.init y.dir _ (HG.out.below B1 HG.out.lt)
      have HV : Hid (varB ⟨y.s.data.toList, y.ty, y.len, y.init, y.dir⟩ = varB (vrV y)) := rfl
      generalize varB ⟨y.s.data.toList, y.ty, y.len, y.init, y.dir⟩ = VB at *
      go_wp2_with fail
      refine m2.mono ?_
      rintro e w2 ⟨rfl, hb2⟩
      have BB2 := hide (B1.trans (hb2.mono B1.size))
      clear m2 hb2 B1 c0 c1 c2 c3 c4
      cases VB with
      | false =>
        have HF : Hid (R = false) := by
          show _ = _
          rw [HE.out]
          cases e : (l.map vrV).all varB with
          | false => rfl
          | true => exact absurd (List.all_eq_true.1 e _ (List.mem_of_getElem? HY.out)) (by rw [← HV.out]; decide)
        go_wp2
        go_ret
        exact ⟨ret_bool HF.out.symm, BB2.out⟩
      | true =>
        have HM2 : Hid (∀ p ∈ (l.map vrV).take (k + 1), varB p = true) := by
          intro p hp
          rw [List.take_add_one, HY.out, List.mem_append] at hp
          rcases hp with hp | hp
          · exact HM.out p hp
          · rw [List.mem_singleton.1 hp]; exact HV.out.symm
        go_wp2
        go_roundw
        case rel => exact ⟨k + 1, by omega, by go_num, HM2.out, BB2.out⟩
        case measure => simp [intOf]; omega
    · obtain rfl : k = N := by omega
      have HF : Hid (R = true) := by
        show _ = _
        rw [HE.out, List.all_eq_true]
        intro p hp
        exact HM.out p (by rw [List.take_of_length_le (by rw [List.length_map, ← HN.out]; omega)]; exact hp)
      go_wp2
      go_ret
      exact ⟨ret_bool HF.out.symm, HB.out⟩
end Go.Proofs.YtldjiieckddhkaaGreatDoor
