/- The law's works. | For the laws' walks: rows of one's own, remainders. | Appends of numbers; rows of numbers that may have room behind. | The book's SameNums, SpoilNums, LendNums, KeptNums. -/
import Derived.Test.YthifgfhgkdjkfabDoorMg13
import Derived.Deep.QuietTactic
import Derived.Test.YthifgfhgkdjkfabDoorMg3
namespace Go.Proofs.YthifgfhgkdjkfabDoor
open Go.RowKit
theorem ILst.of_ob {w : World} {g : Nat} {T : TypeId} {l : List Int} (h : Ob w g T (intC l).toArray) (n cap : Nat) (hn : n = l.length) : ILst w (.slice (some ⟨g, 0, none⟩) n cap) l := by
  subst hn
  refine ⟨_, g, 0, cap, rfl, fun _ => ⟨h.lt, rfl⟩, fun i x hx => ?_⟩
  rw [Nat.zero_add]
  refine h.cell i ?_
  rw [List.getElem?_toArray, intC_get, hx]; rfl
/-- a step that is taken, of a row of one's own -/
theorem step_own (k : Int) (l m : List Int) (now : Int) (h : stepE k l now = 0) (hm : stepL k l now = m) (g : Nat) (T : TypeId) (n cap n2 : Nat) (hn : n = l.length) (h2 : m.length = n2) (w : World) (hg : Glo w) (ho : Ob w g T (intC l).toArray) : Calls Tryd.prog 7 #[.int .i64 k, .slice (some ⟨g, 0, none⟩) n cap, .int .i64 now] w fun e w' => ∃ g2, e = .returned (.tuple #[.slice (some ⟨g2, 0, none⟩) n2 n2, .int .i64 0]) ∧ Ob w' g2 2 (intC m).toArray ∧ w.heap.size ≤ g2 ∧ Below w.heap.size w w' := by
  subst hm
  subst h2
  exact step12_ok k _ l now w (ILst.of_ob ho n cap hn) hg h
def wkL : Nat → List Int
  | 0 => [1, 5, 0, 0, 0, 0]
  | 1 => [1, 5, 0, 0, 0, 1]
  | 2 => [1, 5, 0, 3, 0, 1]
  | _ => [1, 5, 1, 5, 0, 1]
def wkT : Array Value := #[.int .i64 0, .int .i64 0, .int .i64 0, .int .i64 3, .int .i64 0, .int .i64 3, .int .i64 5, .int .i64 1, .int .i64 5]
set_option maxRecDepth 100000 in
set_option maxHeartbeats 3200000 in
theorem works_any (w : World) (hg : Glo w) : Calls Tryd.prog 4 #[] w fun e w' => e = .returned (.bool true) ∧ Below w.heap.size w w' := by
  have HG := hide hg
  clear hg
  have HG2 : Hid (∀ W, Below w.heap.size w W → Glo W) := fun W h => HG.out.below h HG.out.lt
  have HW : Hid (Ob ((w.alloc (.cells #[.int .i64 1, .int .i64 5, .int .i64 0, .int .i64 0, .int .i64 0, .int .i64 0] 2)).alloc (.cells wkT 30)) w.heap.size 2 (intC (wkL 0)).toArray ∧ Ob ((w.alloc (.cells #[.int .i64 1, .int .i64 5, .int .i64 0, .int .i64 0, .int .i64 0, .int .i64 0] 2)).alloc (.cells wkT 30)) (w.heap.size + 1) 30 wkT ∧ Below w.heap.size w ((w.alloc (.cells #[.int .i64 1, .int .i64 5, .int .i64 0, .int .i64 0, .int .i64 0, .int .i64 0] 2)).alloc (.cells wkT 30))) := by
    have o1 := Ob.new w 2 #[.int .i64 1, .int .i64 5, .int .i64 0, .int .i64 0, .int .i64 0, .int .i64 0]
    have o2 := Ob.new (w.alloc (.cells #[.int .i64 1, .int .i64 5, .int .i64 0, .int .i64 0, .int .i64 0, .int .i64 0] 2)) 30 wkT
    rw [World.size_alloc] at o2
    exact ⟨o1.on ((Below.refl _ _).alloc (Nat.le_refl _) _) o1.lt, o2, ((Below.refl _ _).alloc (Nat.le_refl _) _).alloc (by simp) _⟩
  go_enter Tryd.func4, Tryd.ntmps4
  go_wp2_with fail
  change Code.wp _ _ _ _ ((w.alloc (.cells #[.int .i64 1, .int .i64 5, .int .i64 0, .int .i64 0, .int .i64 0, .int .i64 0] 2)).alloc (.cells wkT 30))
  generalize ((w.alloc (.cells #[.int .i64 1, .int .i64 5, .int .i64 0, .int .i64 0, .int .i64 0, .int .i64 0] 2)).alloc (.cells wkT 30)) = W0 at *
  go_loopw [1, 13] (fun cv i wr => ∃ k : Nat, k ≤ 3 ∧ i = .int .i64 (k : Int) ∧ ∃ g, cv = .slice (some ⟨g, 0, none⟩) 6 6 ∧ Hid (Ob wr g 2 (intC (wkL k)).toArray ∧ w.heap.size ≤ g ∧ Ob wr (w.heap.size + 1) 30 wkT ∧ Below w.heap.size w wr)) (fun _ i _ => 3 - (intOf i).toNat)
  case atStart => exact ⟨0, by omega, rfl, w.heap.size, rfl, HW.out.1, Nat.le_refl _, HW.out.2.1, HW.out.2.2⟩
  case round =>
    obtain ⟨k, hk, rfl, g, rfl, hh⟩ := hrel
    have HO := hide hh.out.1
    have HL := hide hh.out.2.1
    have HT := hide hh.out.2.2.1
    have HB := hide hh.out.2.2.2
    clear hh HW
    obtain rfl | rfl | rfl | rfl : k = 0 ∨ k = 1 ∨ k = 2 ∨ k = 3 := by omega
    · have t0 : wr.cell? ⟨w.heap.size + 1, 0, none⟩ = some (.int .i64 0) := HT.out.cell 0 rfl
      have t1 : wr.cell? ⟨w.heap.size + 1, 1, none⟩ = some (.int .i64 0) := HT.out.cell 1 rfl
      have t2 : wr.cell? ⟨w.heap.size + 1, 2, none⟩ = some (.int .i64 0) := HT.out.cell 2 rfl
      have HB1 := hide (HB.out.alloc HB.out.size (.cells #[.int .i64 0, .int .i64 0, .int .i64 0] 30))
      have HX := hide (Ob.new wr 30 #[.int .i64 0, .int .i64 0, .int .i64 0])
      have mS := step_own 1 (wkL 0) (wkL 1) 0 (by decide +kernel) (by decide +kernel) g 2 6 6 6 rfl rfl (wr.alloc (.cells #[.int .i64 0, .int .i64 0, .int .i64 0] 30)) (HG2.out _ HB1.out) (HO.out.on ((Below.refl _ _).alloc (Nat.le_refl _) _) HO.out.lt)
      have HS : Hid ((wr.alloc (.cells #[.int .i64 0, .int .i64 0, .int .i64 0] 30)).heap.size = wr.heap.size + 1) := by show _ = _; simp
      go_wp2_with (first | (go_at_call 7; refine mS.mono ?_; rintro e_ w1 ⟨g2, rfl, o1, l1, b1⟩; have O1 := hide o1; have B1 := hide b1; have L1 := hide l1; clear o1 b1 l1; have d2 : w1.cell? ⟨g2, 2, none⟩ = some (.int .i64 0) := O1.out.cell 2 rfl; have d3 : w1.cell? ⟨g2, 3, none⟩ = some (.int .i64 0) := O1.out.cell 3 rfl; have OX := hide (HX.out.on B1.out HX.out.lt); have x1 : w1.cell? ⟨wr.heap.size, 1, none⟩ = some (.int .i64 0) := OX.out.cell 1 rfl; have x2 : w1.cell? ⟨wr.heap.size, 2, none⟩ = some (.int .i64 0) := OX.out.cell 2 rfl))
      go_quiet (fail)
      go_wp2
      have B2 : Below wr.heap.size wr w1 := ((Below.refl _ _).alloc (Nat.le_refl _) _).trans (B1.out.mono (by rw [HS.out]; omega))
      have T1 := HT.out.on B2 HT.out.lt
      have B3 := HB.out.trans (B2.mono HB.out.size)
      go_roundw
      case rel => exact ⟨1, by omega, rfl, g2, rfl, O1.out, Nat.le_trans HB1.out.size L1.out, T1, ⟨B3.os, B3.tape, B3.output, B3.size, B3.block⟩⟩
      case measure => decide
    · have t0 : wr.cell? ⟨w.heap.size + 1, 3, none⟩ = some (.int .i64 3) := HT.out.cell 3 rfl
      have t1 : wr.cell? ⟨w.heap.size + 1, 4, none⟩ = some (.int .i64 0) := HT.out.cell 4 rfl
      have t2 : wr.cell? ⟨w.heap.size + 1, 5, none⟩ = some (.int .i64 3) := HT.out.cell 5 rfl
      have HB1 := hide (HB.out.alloc HB.out.size (.cells #[.int .i64 3, .int .i64 0, .int .i64 3] 30))
      have HX := hide (Ob.new wr 30 #[.int .i64 3, .int .i64 0, .int .i64 3])
      have mS := step_own 1 (wkL 1) (wkL 2) 3 (by decide +kernel) (by decide +kernel) g 2 6 6 6 rfl rfl (wr.alloc (.cells #[.int .i64 3, .int .i64 0, .int .i64 3] 30)) (HG2.out _ HB1.out) (HO.out.on ((Below.refl _ _).alloc (Nat.le_refl _) _) HO.out.lt)
      have HS : Hid ((wr.alloc (.cells #[.int .i64 3, .int .i64 0, .int .i64 3] 30)).heap.size = wr.heap.size + 1) := by show _ = _; simp
      go_wp2_with (first | (go_at_call 7; refine mS.mono ?_; rintro e_ w1 ⟨g2, rfl, o1, l1, b1⟩; have O1 := hide o1; have B1 := hide b1; have L1 := hide l1; clear o1 b1 l1; have d2 : w1.cell? ⟨g2, 2, none⟩ = some (.int .i64 0) := O1.out.cell 2 rfl; have d3 : w1.cell? ⟨g2, 3, none⟩ = some (.int .i64 3) := O1.out.cell 3 rfl; have OX := hide (HX.out.on B1.out HX.out.lt); have x1 : w1.cell? ⟨wr.heap.size, 1, none⟩ = some (.int .i64 0) := OX.out.cell 1 rfl; have x2 : w1.cell? ⟨wr.heap.size, 2, none⟩ = some (.int .i64 3) := OX.out.cell 2 rfl))
      go_quiet (fail)
      go_wp2
      have B2 : Below wr.heap.size wr w1 := ((Below.refl _ _).alloc (Nat.le_refl _) _).trans (B1.out.mono (by rw [HS.out]; omega))
      have T1 := HT.out.on B2 HT.out.lt
      have B3 := HB.out.trans (B2.mono HB.out.size)
      go_roundw
      case rel => exact ⟨2, by omega, rfl, g2, rfl, O1.out, Nat.le_trans HB1.out.size L1.out, T1, ⟨B3.os, B3.tape, B3.output, B3.size, B3.block⟩⟩
      case measure => decide
    · have t0 : wr.cell? ⟨w.heap.size + 1, 6, none⟩ = some (.int .i64 5) := HT.out.cell 6 rfl
      have t1 : wr.cell? ⟨w.heap.size + 1, 7, none⟩ = some (.int .i64 1) := HT.out.cell 7 rfl
      have t2 : wr.cell? ⟨w.heap.size + 1, 8, none⟩ = some (.int .i64 5) := HT.out.cell 8 rfl
      have HB1 := hide (HB.out.alloc HB.out.size (.cells #[.int .i64 5, .int .i64 1, .int .i64 5] 30))
      have HX := hide (Ob.new wr 30 #[.int .i64 5, .int .i64 1, .int .i64 5])
      have mS := step_own 1 (wkL 2) (wkL 3) 5 (by decide +kernel) (by decide +kernel) g 2 6 6 6 rfl rfl (wr.alloc (.cells #[.int .i64 5, .int .i64 1, .int .i64 5] 30)) (HG2.out _ HB1.out) (HO.out.on ((Below.refl _ _).alloc (Nat.le_refl _) _) HO.out.lt)
      have HS : Hid ((wr.alloc (.cells #[.int .i64 5, .int .i64 1, .int .i64 5] 30)).heap.size = wr.heap.size + 1) := by show _ = _; simp
      go_wp2_with (first | (go_at_call 7; refine mS.mono ?_; rintro e_ w1 ⟨g2, rfl, o1, l1, b1⟩; have O1 := hide o1; have B1 := hide b1; have L1 := hide l1; clear o1 b1 l1; have d2 : w1.cell? ⟨g2, 2, none⟩ = some (.int .i64 1) := O1.out.cell 2 rfl; have d3 : w1.cell? ⟨g2, 3, none⟩ = some (.int .i64 5) := O1.out.cell 3 rfl; have OX := hide (HX.out.on B1.out HX.out.lt); have x1 : w1.cell? ⟨wr.heap.size, 1, none⟩ = some (.int .i64 1) := OX.out.cell 1 rfl; have x2 : w1.cell? ⟨wr.heap.size, 2, none⟩ = some (.int .i64 5) := OX.out.cell 2 rfl))
      go_quiet (fail)
      go_wp2
      have B2 : Below wr.heap.size wr w1 := ((Below.refl _ _).alloc (Nat.le_refl _) _).trans (B1.out.mono (by rw [HS.out]; omega))
      have T1 := HT.out.on B2 HT.out.lt
      have B3 := HB.out.trans (B2.mono HB.out.size)
      go_roundw
      case rel => exact ⟨3, by omega, rfl, g2, rfl, O1.out, Nat.le_trans HB1.out.size L1.out, T1, ⟨B3.os, B3.tape, B3.output, B3.size, B3.block⟩⟩
      case measure => decide
    · have f0 := HO.out.fr 0
      have c0 : wr.cell? ⟨g, 0, none⟩ = some (.int .i64 1) := HO.out.cell 0 rfl
      have HO2 : Hid (Ob (wr.setCell ⟨g, 0, none⟩ (.int .i64 0)) g 2 (intC [0, 5, 1, 5, 0, 1]).toArray) := HO.out.set 0 _ rfl
      have HB2 := hide (HB.out.setCell HL.out (p := ⟨g, 0, none⟩) (.int .i64 0))
      have mS := step_own 1 [0, 5, 1, 5, 0, 1] [0, 5, 0, 0, 0, 0] 6 (by decide +kernel) (by decide +kernel) g 2 6 6 6 rfl rfl (wr.setCell ⟨g, 0, none⟩ (.int .i64 0)) (HG2.out _ HB2.out) HO2.out
      go_wp2_with (first | (go_at_call 7; refine mS.mono ?_; rintro e_ w1 ⟨g2, rfl, o1, l1, b1⟩; have O1 := hide o1; have B1 := hide b1; clear o1 b1 l1; have d2 : w1.cell? ⟨g2, 2, none⟩ = some (.int .i64 0) := O1.out.cell 2 rfl; have d3 : w1.cell? ⟨g2, 3, none⟩ = some (.int .i64 0) := O1.out.cell 3 rfl))
      go_ret
      exact ⟨rfl, HB2.out.trans (B1.out.mono HB2.out.size)⟩
end Go.Proofs.YthifgfhgkdjkfabDoor
namespace Go.Proofs.YthifgfhgkdjkfabDoor
open Go.RowKit
theorem Ob.far {w : World} {g : Nat} {T : TypeId} {cs : Array Value} (h : Ob w g T cs) {b : Nat} (hb : g ≠ b) (k : Nat) (v : Value) : Ob (w.setCell ⟨b, k, none⟩ v) g T cs := (heap_setCell_other w ⟨b, k, none⟩ g v hb).trans h
theorem Ob.drew {w : World} {g : Nat} {T : TypeId} {cs : Array Value} (h : Ob w g T cs) (n : Nat) : Ob (w.drewN n) g T cs := h
theorem below_drewN {B : Nat} {a w : World} (h : Below B a w) (n : Nat) : Below B a (w.drewN n) := ⟨h.os, h.tape, h.output, h.size, h.block⟩
theorem rem2 (a : Int) : wrap64 ((IntKind.u64.wrap a).tmod 2) = 0 ∨ wrap64 ((IntKind.u64.wrap a).tmod 2) = 1 := by
  have h : IntKind.u64.wrap a = a % 18446744073709551616 := rfl
  rw [h, Int.tmod_eq_emod_of_nonneg (by omega)]
  have h2 : wrap64 (a % 18446744073709551616 % 2) = a % 18446744073709551616 % 2 := w64 (by omega) (by omega)
  rw [h2]
  omega
theorem rem_up (a m : Int) (h0 : 0 < m) (h1 : m ≤ 1000000) : ∃ r : Int, 0 ≤ r ∧ r < m ∧ wrap64 ((IntKind.u64.wrap a).tmod m) = r := by
  have h : IntKind.u64.wrap a = a % 18446744073709551616 := rfl
  have n1 := Int.emod_nonneg (a % 18446744073709551616) (show m ≠ 0 by omega)
  have n2 := Int.emod_lt_of_pos (a % 18446744073709551616) h0
  refine ⟨a % 18446744073709551616 % m, n1, n2, ?_⟩
  rw [h, Int.tmod_eq_emod_of_nonneg (by omega)]
  exact w64 (by omega) (by omega)
end Go.Proofs.YthifgfhgkdjkfabDoor
namespace Go.Proofs.YthifgfhgkdjkfabDoor
open Go.RowKit
theorem info2 : (Tryd.prog.info? 2).map (fun i => (i.zero, i.size, i.bytes)) = some (some (.int .i64 0), 1, 8) := by kernel_rfl
theorem owns_slice {w : World} {base n e s : Nat} {v : Value} {xs : List Value} (h : w.ownsRow base e s v n xs) : ∃ a cap, v = .slice a n cap ∧ n ≤ cap := by
  rcases h.2 with ⟨hv, h0⟩ | ⟨g', cap', cur, hv, hb, hg, hn, hm, hc, ht⟩
  · exact ⟨_, _, by rw [h0]; exact hv, by omega⟩
  · exact ⟨_, _, hv, hn⟩
theorem addr_at (b off j : Nat) : (⟨b, off, none⟩ : Addr).add j = ⟨b, off + j, none⟩ := by unfold Addr.add; split <;> simp_all
theorem run_append_nil2 (ty : Nat) (v : Value) (hv : ∃ a n cap, v = .slice a n cap ∧ n ≤ cap) (c : Nat) (W : World) : (Builtin.append_ #[22, 22] ty #[v, .slice none 0 c]).run Tryd.prog W = .ok v W := by
  obtain ⟨a, n, cap, rfl, hn⟩ := hv
  cases a <;> simp [Builtin.append_, go_sem, hn]
theorem ILst.lit (w : World) (x : Int) : ILst (w.alloc (.cells #[.int .i64 x] 3)) (.slice (some ⟨w.heap.size, 0, none⟩) 1 1) [x] :=
  ILst.of_owns (base := w.heap.size) (l := [x]) (World.ownsRow_lit (e := 3) (size := 1) w #[.int .i64 x] 1 (Nat.le_refl _) (by decide) rfl)
/-- what lies in a slice of one's own, or below, stays behind an append -/
theorem below_app {w w1 w2 : World} {base n : Nat} {v : Value} {xs : List Value} (h : Below base w w1) (hb : base ≤ w1.heap.size) (ho : w1.ownsRow base 3 1 v n xs) (hg : w1.grownBy w2 v.ownBlock) : Below base w w2 :=
  h.grown hg hb fun k hk => (ho.lt k hk).1
theorem run_append_nums (w : World) (base ty n : Nat) (v : Value) (xs : List Value) (hown : w.ownsRow base 2 1 v n xs) (u : Value) (l : List Int) (hL : ILst w u l) (hbytes : ((n + l.length) + (n + l.length) / 4 + 192) * 8 ≤ 281474976710656) (hbase : base ≤ w.heap.size) :
    ∃ v' w', (Builtin.append_ #[22, 22] ty #[v, u]).run Tryd.prog w = .ok v' w' ∧ w'.ownsRow base 2 1 v' (n + l.length) (xs ++ intC l) ∧ w.grownBy w' v.ownBlock := by
  obtain ⟨i0, hi, hz0, hz1, hz2⟩ := info_parts info2
  obtain ⟨a, b, off, c, rfl, hA, hI⟩ := hL
  have main : ∀ ad : Addr, a = some ad → (∀ j x, (intC l)[j]? = some x → w.cell? (ad.add j) = some x) → ∃ v' w', (Builtin.append_ #[22, 22] ty #[v, .slice a l.length c]).run Tryd.prog w = .ok v' w' ∧ w'.ownsRow base 2 1 v' (n + l.length) (xs ++ intC l) ∧ w.grownBy w' v.ownBlock := fun ad had hc => by
    subst had
    obtain ⟨v', w', hr, h2, h3, h4⟩ := run_append_own_wide (P := Tryd.prog) w base 22 ty 2 i0 _ 1 8 Tryd.underlying22 hi hz0 hz1 hz2 rfl (by omega) _ n xs hown ad l.length c (intC l) (by rw [intC_length]; omega) hc (intC_one l) (by unfold maxLen; omega) hbytes hbase
    exact ⟨v', w', hr, h2, h3⟩
  by_cases hn : 0 < l.length
  · obtain ⟨_, rfl⟩ := hA hn
    refine main _ rfl fun j x hx => ?_
    rw [intC_get] at hx
    cases hy : l[j]? with
    | none => rw [hy] at hx; cases hx
    | some y =>
      rw [hy] at hx
      have hx : Value.int .i64 y = x := by simpa using hx
      subst hx
      rw [addr_at]
      exact hI j y hy
  · have hl : l = [] := List.eq_nil_of_length_eq_zero (by omega)
    subst hl
    cases a with
    | some ad => exact main ad rfl (fun j x hx => by cases hx)
    | none =>
      obtain ⟨a, cap, hv, hc⟩ := owns_slice hown
      refine ⟨v, w, run_append_nil2 ty v ⟨_, _, _, hv, hc⟩ c w, ?_, ⟨rfl, rfl, rfl, Nat.le_refl _, fun _ _ _ => rfl⟩⟩
      show w.ownsRow base 2 1 v n (xs ++ [])
      rw [List.append_nil]; exact hown
theorem wpList_append_nums {w : World} {ops : Array Oper} {rest : List Oper} {o : Oper} {a : Act} {Q : Exit → Act → World → Prop} (hgd : Region.wanted o (yielded ops a.tmps) = true) (s x : Operand)
    (ho : o.op = .call { callee := .builtin .append, args := #[s, x], argTypes := #[22, 22] })
    (base n : Nat) (v : Value) (xs : List Value) (hs : a.eval s = v) (hown : w.ownsRow base 2 1 v n xs) (u : Value) (l : List Int) (hx : a.eval x = u) (hL : ILst w u l) (hbytes : ((n + l.length) + (n + l.length) / 4 + 192) * 8 ≤ 281474976710656) (hbase : base ≤ w.heap.size)
    (h : ∀ v' w', w'.ownsRow base 2 1 v' (n + l.length) (xs ++ intC l) → w.grownBy w' v.ownBlock → wpList Tryd.prog ops Q rest (a.put o.dst v') w') : wpList Tryd.prog ops Q (o :: rest) a w := by
  refine wpList_step fun K hK => ?_
  rw [if_pos hgd]
  obtain ⟨v', w', hr, h2, h3⟩ := run_append_nums w base o.type n v xs hown u l hL hbytes hbase
  unfold Oper.wp execOp
  simp only [ho, resolve, invoke, builtin, Sem.run_bind, Sem.run_pure, Result.andThen_ok, List.map_toArray, List.map_cons, List.map_nil, hs, hx, hr]
  exact hK _ _ (h v' w' h2 h3)
/-- what lies in a slice of one's own, or below, stays behind an append -/
theorem below_app2 {w w1 w2 : World} {base n : Nat} {v : Value} {xs : List Value} (h : Below base w w1) (hb : base ≤ w1.heap.size) (ho : w1.ownsRow base 2 1 v n xs) (hg : w1.grownBy w2 v.ownBlock) : Below base w w2 :=
  h.grown hg hb fun k hk => (ho.lt k hk).1
theorem blw {w w1 w2 : World} (c1 : Below w.heap.size w w1) (c2 : Below w1.heap.size w1 w2) : Below w.heap.size w w2 := c1.trans (c2.mono c1.size)
theorem blw_alloc {w w1 : World} (h : Below w.heap.size w w1) (o : Obj) : Below w.heap.size w (w1.alloc o) := h.alloc h.size o
theorem own_one (w : World) (base : Nat) (x : Int) (hb : base ≤ w.heap.size) : (w.alloc (.cells #[.int .i64 x] 3)).ownsRow base 3 1 (.slice (some ⟨w.heap.size, 0, none⟩) 1 1) 1 (intC [x]) :=
  World.ownsRow_lit (e := 3) (size := 1) w #[.int .i64 x] 1 hb (by decide) rfl
theorem ILst.owned1 {w : World} {base : Nat} {v : Value} {x : Int} {l : List Int} (h : w.ownsRow base 3 1 v (1 + l.length) (intC [x] ++ intC l)) : ILst w v (x :: l) := by
  rw [Nat.add_comm] at h
  exact ILst.of_owns (l := x :: l) h
theorem own_none2 (w : World) (base : Nat) (hb : base ≤ w.heap.size) : (w.alloc (.cells #[] 2)).ownsRow base 2 1 (.slice (some ⟨w.heap.size, 0, none⟩) 0 0) 0 (intC []) :=
  World.ownsRow_lit (e := 2) (size := 1) w #[] 0 hb (by decide) rfl
/-- a row of numbers, with room behind -/
def Rw (w : World) (g : Nat) (l : List Int) : Prop := ∃ cur, w.heap[g]? = some (.cells cur 2 (0, 0)) ∧ cur.toList.take l.length = intC l
theorem Rw.cell {w : World} {g : Nat} {l : List Int} (h : Rw w g l) (k : Nat) {x : Int} (hx : l[k]? = some x) : w.cell? ⟨g, k, none⟩ = some (.int .i64 x) := by
  obtain ⟨cur, hh, ht⟩ := h
  rw [Lib.cell_of_heap hh]
  have hk : k < l.length := (List.getElem?_eq_some_iff.1 hx).1
  have e : (cur.toList.take l.length)[k]? = some (.int .i64 x) := by rw [ht, intC_get, hx]; rfl
  rw [List.getElem?_take_of_lt hk, Array.getElem?_toList] at e
  exact e
theorem Rw.fr {w : World} {g : Nat} {l : List Int} (h : Rw w g l) (k : Nat) : w.frozen? ⟨g, k, none⟩ = false := by
  obtain ⟨cur, hh, ht⟩ := h
  exact Lib.frozen_of_heap hh k
theorem Rw.lt {w : World} {g : Nat} {l : List Int} (h : Rw w g l) : g < w.heap.size := by
  obtain ⟨cur, hh, ht⟩ := h
  exact (Array.getElem?_eq_some_iff.1 hh).1
theorem Rw.on {w w' : World} {g B : Nat} {l : List Int} (h : Rw w g l) (hb : Below B w w') (hB : g < B) : Rw w' g l := by
  obtain ⟨cur, hh, ht⟩ := h
  exact ⟨cur, (hb.block g hB).trans hh, ht⟩
theorem Rw.drew {w : World} {g : Nat} {l : List Int} (h : Rw w g l) (n : Nat) : Rw (w.drewN n) g l := h
theorem Rw.set {w : World} {g : Nat} {l : List Int} (h : Rw w g l) (k : Nat) (x : Int) {m : List Int} (hm : l.set k x = m) : Rw (w.setCell ⟨g, k, none⟩ (.int .i64 x)) g m := by
  subst hm
  obtain ⟨cur, hh, ht⟩ := h
  refine ⟨_, Lib.heap_setCell_same hh _, ?_⟩
  rw [Array.toList_setIfInBounds, List.length_set, List.take_set, ht]
  refine List.ext_getElem? fun i => ?_
  rw [List.getElem?_set, intC_get, intC_get, intC_length, List.getElem?_set]
  by_cases e : k = i
  · subst e
    by_cases hk : k < l.length
    · simp [hk]
    · simp [hk]
  · rw [if_neg e, if_neg e]
theorem Rw.far {w : World} {g : Nat} {l : List Int} (h : Rw w g l) {b : Nat} (hb : g ≠ b) (k : Nat) (v : Value) : Rw (w.setCell ⟨b, k, none⟩ v) g l := by
  obtain ⟨cur, hh, ht⟩ := h
  exact ⟨cur, (heap_setCell_other w ⟨b, k, none⟩ g v hb).trans hh, ht⟩
theorem Rw.of_ob {w : World} {g : Nat} {l : List Int} (h : Ob w g 2 (intC l).toArray) : Rw w g l := ⟨_, h, by rw [List.take_of_length_le (by simp [intC_length])]⟩
theorem Rw.ilst {w : World} {g : Nat} {l : List Int} (h : Rw w g l) (n cap : Nat) (hn : n = l.length) : ILst w (.slice (some ⟨g, 0, none⟩) n cap) l := by
  subst hn
  refine ⟨_, g, 0, cap, rfl, fun _ => ⟨h.lt, rfl⟩, fun i x hx => ?_⟩
  rw [Nat.zero_add]
  exact h.cell i hx
/-- what an append made, of at least one number -/
theorem Rw.of_owns {w : World} {base n : Nat} {v : Value} {l : List Int} (h : w.ownsRow base 2 1 v n (intC l)) (hn : 0 < n) (hl : n = l.length) : ∃ g cap, v = .slice (some ⟨g, 0, none⟩) n cap ∧ base ≤ g ∧ n ≤ cap ∧ Rw w g l := by
  rcases h.2 with ⟨_, h0⟩ | ⟨g, cap, cur, hv, hb, hg, hc, hm, hs, ht⟩
  · omega
  · refine ⟨g, cap, hv, hb, hc, cur, hg, ?_⟩
    rw [← hl]
    rw [Nat.mul_one] at ht
    exact ht
end Go.Proofs.YthifgfhgkdjkfabDoor
namespace Go.Proofs.YthifgfhgkdjkfabDoor
open Go.RowKit
set_option maxRecDepth 100000 in
set_option maxHeartbeats 1600000 in
theorem sameNums_one (va vb : Value) (l : List Int) (w : World) (hA : ILst w va l) (hB : ILst w vb l) (hlen : l.length ≤ 35184372088832) : Calls Tryd.prog 6 #[va, vb] w fun e w' => e = .returned (.bool true) ∧ Below w.heap.size w w' := by
  obtain ⟨aa, ab, aoff, acap, rfl, haA, haI⟩ := hA
  obtain ⟨ba, bb, boff, bcap, rfl, hbA, hbI⟩ := hB
  have HAA := hide haA
  have HAI := hide haI
  have HBA := hide hbA
  have HBI := hide hbI
  obtain ⟨n, hn⟩ : ∃ n, n = l.length := ⟨_, rfl⟩
  rw [← hn] at hlen ⊢
  have HN := hide hn
  have n0 : (0 : Int) ≤ (n : Int) := by omega
  have n5 : (n : Int) ≤ 35184372088832 := by omega
  clear hn haA haI hbA hbI
  go_enter Tryd.func6, Tryd.ntmps6
  go_wp2_with fail
  go_loopw [5] (fun i wr => ∃ k : Nat, k ≤ n ∧ i = .int .i64 (k : Int) ∧ Hid (Below w.heap.size w wr)) (fun i _ => n - (intOf i).toNat)
  case atStart => exact ⟨0, by omega, rfl, Below.refl _ _⟩
  case round =>
    obtain ⟨k, hk, rfl, HB⟩ := hrel
    by_cases hlt : k < n
    · have j1 : (k : Int) < (n : Int) := by omega
      have j0 : (0 : Int) ≤ (k : Int) := by omega
      obtain ⟨x, hx⟩ : ∃ x, l[k]? = some x := ⟨_, List.getElem?_eq_getElem (by rw [← HN.out]; exact hlt)⟩
      obtain ⟨hab, rfl⟩ := HAA.out (by rw [← HN.out]; omega)
      obtain ⟨hbb, rfl⟩ := HBA.out (by rw [← HN.out]; omega)
      have c1 := (HB.out.cell (p := ⟨ab, aoff + k, none⟩) hab).trans (HAI.out k x hx)
      have c2 := (HB.out.cell (p := ⟨bb, boff + k, none⟩) hbb).trans (HBI.out k x hx)
      clear hx
      go_wp2_with fail
      go_quiet (fail)
      go_wp2
      go_roundw
      case rel => exact ⟨k + 1, by omega, by go_num, below_drewN HB.out _⟩
      case measure => simp [intOf]; omega
    · have j1 : ¬ (k : Int) < (n : Int) := by omega
      go_wp2
      go_ret
      exact ⟨rfl, HB.out⟩
end Go.Proofs.YthifgfhgkdjkfabDoor
