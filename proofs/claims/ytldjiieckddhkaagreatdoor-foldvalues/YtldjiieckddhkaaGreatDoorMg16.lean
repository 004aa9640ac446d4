/- TpC | TpD -/
import Derived.Test.YtldjiieckddhkaaGreatDoorMg15
namespace Go.Proofs.YtldjiieckddhkaaGreatDoor
open Go.RowKit Go.Sort
theorem cell_set3 {W : World} {g b o : Nat} {v : Value} (h : W.cell? ⟨b, o, none⟩ = some v) (hne : b ≠ g) (x y z : Value) : (((W.setCell ⟨g, 0, none⟩ x).setCell ⟨g, 1, none⟩ y).setCell ⟨g, 2, none⟩ z).cell? ⟨b, o, none⟩ = some v := by
  have e : ∀ (W : World) (j : Nat) (u : Value), (W.setCell ⟨g, j, none⟩ u).cell? ⟨b, o, none⟩ = W.cell? ⟨b, o, none⟩ := fun W j u => World.cell?_setCell_other _ _ _ _ (fun h => hne (congrArg Addr.block h).symm)
  rw [e, e, e]; exact h
set_option maxRecDepth 100000 in
set_option maxHeartbeats 3200000 in
theorem pk_op1 (v : Value) (vs : List Vr) (k0t k0l k0h : Int) (kb ko cp' : Nat) (y : Pv) (w : World) (hv : ∃ a n cp, v = .slice a n cp) (hg : Glo w) (hk : y.k = 5) (hkb : kb < w.heap.size) (hI : KAt w kb ko [⟨k0t, k0l, k0h⟩]) :
    Calls Tryz.prog 103 #[v, .agg #[.int .i64 y.k, .int .i64 y.n, .int .i64 y.t, .string y.s, .string y.f], .slice (some ⟨kb, ko, none⟩) 1 cp'] w (PkOut vs y [⟨k0t, k0l, k0h⟩] w) := by
  have HK : Hid (partK vs (ptV y) [⟨k0t, k0l, k0h⟩] = opK y.n ⟨k0t, k0l, k0h⟩ ⟨k0t, k0l, k0h⟩) := partK_five (p := ptV y) hk _
  unfold PkOut
  generalize partK vs (ptV y) [⟨k0t, k0l, k0h⟩] = R at *
  obtain ⟨W0, hW0⟩ : ∃ W0, W0 = ((w.alloc (.cells #[.int .i64 y.k, .int .i64 y.n, .int .i64 y.t, .string y.s, .string y.f] 38)).alloc (.cells #[.int .i64 0, .int .i64 0, .int .i64 0] 52)) := ⟨_, rfl⟩
  have PW := hide (show PkW w W0 y by rw [hW0]; exact PkW.mk' w y)
  have HW0 := hide hW0
  obtain ⟨a, n, cp, rfl⟩ := hv
  have L0 := PW.out.later (Below.refl _ W0)
  have hk1 : (y.k == 1) = false := by rw [hk]; rfl
  have hk2 : (y.k == 2) = false := by rw [hk]; rfl
  have hk3 : (y.k == 3) = false := by rw [hk]; rfl
  have hk4 : (y.k == 4) = false := by rw [hk]; rfl
  have hk6 : (y.k == 6) = false := by rw [hk]; rfl
  obtain ⟨i0, i1, i2⟩ := hI 0 _ rfl
  simp only [Nat.zero_mul, Nat.add_zero] at i0 i1 i2
  have C : Hid (∀ W, (W.cell? ⟨w.heap.size, 1, none⟩ = some (.int .i64 y.n) ∧ W.cell? ⟨kb, ko, none⟩ = some (.int .i64 k0t) ∧ W.cell? ⟨kb, ko + 1, none⟩ = some (.int .i64 k0l) ∧ W.cell? ⟨kb, ko + 2, none⟩ = some (.int .i64 k0h) ∧ Below w.heap.size w W) ∧ Below (w.heap.size + 2) W0 W → Calls Tryz.prog 142 #[.int .i64 y.n, .agg #[.int .i64 k0t, .int .i64 k0l, .int .i64 k0h], .agg #[.int .i64 k0t, .int .i64 k0l, .int .i64 k0h]] W fun e w' => ∃ x e', e = .returned (.tuple #[.agg #[.int .i64 x.typ, .int .i64 x.lo, .int .i64 x.hi], .int .i64 e']) ∧ Hid (KOut R x e') ∧ PkL w w' y ∧ (w'.cell? ⟨w.heap.size, 1, none⟩ = some (.int .i64 y.n) ∧ w'.cell? ⟨kb, ko, none⟩ = some (.int .i64 k0t) ∧ w'.cell? ⟨kb, ko + 1, none⟩ = some (.int .i64 k0l) ∧ w'.cell? ⟨kb, ko + 2, none⟩ = some (.int .i64 k0h) ∧ Below w.heap.size w w')) := fun W ⟨h, h2⟩ =>
    (opKind_any y.n ⟨k0t, k0l, k0h⟩ ⟨k0t, k0l, k0h⟩ W (hg.below h.2.2.2.2 hg.lt)).mono fun e w' ⟨⟨x, e', h1, h3⟩, hb⟩ => ⟨x, e', h1, (by show KOut R x e'; rw [HK.out]; exact h3), PW.out.later (h2.trans (hb.mono (PW.out.size ▸ h2.size))), ⟨(hb.cell (p := ⟨w.heap.size, 1, none⟩) (World.block_lt_of_cell? W _ h.1)).trans h.1, (hb.cell (p := ⟨kb, ko, none⟩) (World.block_lt_of_cell? W _ h.2.1)).trans h.2.1, (hb.cell (p := ⟨kb, ko + 1, none⟩) (World.block_lt_of_cell? W _ h.2.2.1)).trans h.2.2.1, (hb.cell (p := ⟨kb, ko + 2, none⟩) (World.block_lt_of_cell? W _ h.2.2.2.1)).trans h.2.2.2.1, h.2.2.2.2.trans (hb.mono h.2.2.2.2.size)⟩⟩
  have S0 : W0.cell? ⟨w.heap.size, 1, none⟩ = some (.int .i64 y.n) ∧ W0.cell? ⟨kb, ko, none⟩ = some (.int .i64 k0t) ∧ W0.cell? ⟨kb, ko + 1, none⟩ = some (.int .i64 k0l) ∧ W0.cell? ⟨kb, ko + 2, none⟩ = some (.int .i64 k0h) ∧ Below w.heap.size w W0 := ⟨L0.p1, (PW.out.below.cell (p := ⟨kb, ko, none⟩) hkb).trans i0, (PW.out.below.cell (p := ⟨kb, ko + 1, none⟩) hkb).trans i1, (PW.out.below.cell (p := ⟨kb, ko + 2, none⟩) hkb).trans i2, PW.out.below⟩
  have D0 : Below (w.heap.size + 2) W0 W0.drew := (Below.refl _ W0).drew
  have hne : kb ≠ w.heap.size + 1 := by omega
  have w1 : IntKind.i64.wrap (((1 : Nat) : Int) - 1) = 0 := by decide
  have w2 : IntKind.i64.wrap 0 = 0 := by decide
  clear hk hI HK i0 i1 i2 hg L0 hW0
  go_enter Tryz.func103, Tryz.ntmps103
  go_wp2_with fail
  rw [← HW0.out]
  go_region_held3 (fun W => W.cell? ⟨w.heap.size, 1, none⟩ = some (.int .i64 y.n) ∧ W.cell? ⟨kb, ko, none⟩ = some (.int .i64 k0t) ∧ W.cell? ⟨kb, ko + 1, none⟩ = some (.int .i64 k0l) ∧ W.cell? ⟨kb, ko + 2, none⟩ = some (.int .i64 k0h) ∧ Below w.heap.size w W) (first | assumption | exact ⟨S0.1, S0.2.1, S0.2.2.1, S0.2.2.2.1, S0.2.2.2.2.drew⟩ | (with_reducible exact K2 _ _ _))
    (first | (go_at_call 142; refine (C.out _ ⟨?_, ?_⟩).mono ?_; assumption; assumption; rintro e W1 ⟨x, e', rfl, HF, L, hs⟩; have z0 := L.z0; have z1 := L.z1; have z2 := L.z2; have fz := L.fz; have K2 := fun a b c : Value => (show (((W1.setCell ⟨w.heap.size + 1, 0, none⟩ a).setCell ⟨w.heap.size + 1, 1, none⟩ b).setCell ⟨w.heap.size + 1, 2, none⟩ c).cell? ⟨w.heap.size, 1, none⟩ = some (.int .i64 y.n) ∧ (((W1.setCell ⟨w.heap.size + 1, 0, none⟩ a).setCell ⟨w.heap.size + 1, 1, none⟩ b).setCell ⟨w.heap.size + 1, 2, none⟩ c).cell? ⟨kb, ko, none⟩ = some (.int .i64 k0t) ∧ (((W1.setCell ⟨w.heap.size + 1, 0, none⟩ a).setCell ⟨w.heap.size + 1, 1, none⟩ b).setCell ⟨w.heap.size + 1, 2, none⟩ c).cell? ⟨kb, ko + 1, none⟩ = some (.int .i64 k0l) ∧ (((W1.setCell ⟨w.heap.size + 1, 0, none⟩ a).setCell ⟨w.heap.size + 1, 1, none⟩ b).setCell ⟨w.heap.size + 1, 2, none⟩ c).cell? ⟨kb, ko + 2, none⟩ = some (.int .i64 k0h) ∧ Below w.heap.size w (((W1.setCell ⟨w.heap.size + 1, 0, none⟩ a).setCell ⟨w.heap.size + 1, 1, none⟩ b).setCell ⟨w.heap.size + 1, 2, none⟩ c) from ⟨cell_set3 hs.1 (by omega) a b c, cell_set3 hs.2.1 (by omega) a b c, cell_set3 hs.2.2.1 (by omega) a b c, cell_set3 hs.2.2.2.1 (by omega) a b c, set3 hs.2.2.2.2 (by omega) a b c⟩)))
  all_goals
    have HB := hide L.below
    clear K2 C S0
    go_wp2
    refine bodyPost_ret (v := .tuple #[.agg #[.int .i64 x.typ, .int .i64 x.lo, .int .i64 x.hi], .int .i64 e']) (by simp [results, Tryz.results103, go_sem, *]) rfl ⟨⟨x, e', rfl, HF.out⟩, ?_⟩
    exact set3 HB.out (show w.heap.size ≤ w.heap.size + 1 by omega) _ _ _
set_option maxRecDepth 100000 in
set_option maxHeartbeats 3200000 in
theorem pk_op2 (v : Value) (vs : List Vr) (k0t k0l k0h k1t k1l k1h : Int) (kb ko cp' : Nat) (y : Pv) (w : World) (hv : ∃ a n cp, v = .slice a n cp) (hg : Glo w) (hk : y.k = 5) (hkb : kb < w.heap.size) (hI : KAt w kb ko [⟨k0t, k0l, k0h⟩, ⟨k1t, k1l, k1h⟩]) :
    Calls Tryz.prog 103 #[v, .agg #[.int .i64 y.k, .int .i64 y.n, .int .i64 y.t, .string y.s, .string y.f], .slice (some ⟨kb, ko, none⟩) 2 cp'] w (PkOut vs y [⟨k0t, k0l, k0h⟩, ⟨k1t, k1l, k1h⟩] w) := by
  have HK : Hid (partK vs (ptV y) [⟨k0t, k0l, k0h⟩, ⟨k1t, k1l, k1h⟩] = opK y.n ⟨k0t, k0l, k0h⟩ ⟨k1t, k1l, k1h⟩) := partK_five (p := ptV y) hk _
  unfold PkOut
  generalize partK vs (ptV y) [⟨k0t, k0l, k0h⟩, ⟨k1t, k1l, k1h⟩] = R at *
  obtain ⟨W0, hW0⟩ : ∃ W0, W0 = ((w.alloc (.cells #[.int .i64 y.k, .int .i64 y.n, .int .i64 y.t, .string y.s, .string y.f] 38)).alloc (.cells #[.int .i64 0, .int .i64 0, .int .i64 0] 52)) := ⟨_, rfl⟩
  have PW := hide (show PkW w W0 y by rw [hW0]; exact PkW.mk' w y)
  have HW0 := hide hW0
  obtain ⟨a, n, cp, rfl⟩ := hv
  have L0 := PW.out.later (Below.refl _ W0)
  have hk1 : (y.k == 1) = false := by rw [hk]; rfl
  have hk2 : (y.k == 2) = false := by rw [hk]; rfl
  have hk3 : (y.k == 3) = false := by rw [hk]; rfl
  have hk4 : (y.k == 4) = false := by rw [hk]; rfl
  have hk6 : (y.k == 6) = false := by rw [hk]; rfl
  obtain ⟨i0, i1, i2⟩ := hI 0 _ rfl
  simp only [Nat.zero_mul, Nat.add_zero] at i0 i1 i2
  obtain ⟨j0, j1, j2⟩ := hI 1 _ rfl
  simp only [Nat.one_mul] at j0 j1 j2
  have C : Hid (∀ W, (W.cell? ⟨w.heap.size, 1, none⟩ = some (.int .i64 y.n) ∧ W.cell? ⟨kb, ko, none⟩ = some (.int .i64 k0t) ∧ W.cell? ⟨kb, ko + 1, none⟩ = some (.int .i64 k0l) ∧ W.cell? ⟨kb, ko + 2, none⟩ = some (.int .i64 k0h) ∧ W.cell? ⟨kb, ko + 3, none⟩ = some (.int .i64 k1t) ∧ W.cell? ⟨kb, ko + 3 + 1, none⟩ = some (.int .i64 k1l) ∧ W.cell? ⟨kb, ko + 3 + 2, none⟩ = some (.int .i64 k1h) ∧ Below w.heap.size w W) ∧ Below (w.heap.size + 2) W0 W → Calls Tryz.prog 142 #[.int .i64 y.n, .agg #[.int .i64 k0t, .int .i64 k0l, .int .i64 k0h], .agg #[.int .i64 k1t, .int .i64 k1l, .int .i64 k1h]] W fun e w' => ∃ x e', e = .returned (.tuple #[.agg #[.int .i64 x.typ, .int .i64 x.lo, .int .i64 x.hi], .int .i64 e']) ∧ Hid (KOut R x e') ∧ PkL w w' y ∧ (w'.cell? ⟨w.heap.size, 1, none⟩ = some (.int .i64 y.n) ∧ w'.cell? ⟨kb, ko, none⟩ = some (.int .i64 k0t) ∧ w'.cell? ⟨kb, ko + 1, none⟩ = some (.int .i64 k0l) ∧ w'.cell? ⟨kb, ko + 2, none⟩ = some (.int .i64 k0h) ∧ w'.cell? ⟨kb, ko + 3, none⟩ = some (.int .i64 k1t) ∧ w'.cell? ⟨kb, ko + 3 + 1, none⟩ = some (.int .i64 k1l) ∧ w'.cell? ⟨kb, ko + 3 + 2, none⟩ = some (.int .i64 k1h) ∧ Below w.heap.size w w')) := fun W ⟨h, h2⟩ =>
    (opKind_any y.n ⟨k0t, k0l, k0h⟩ ⟨k1t, k1l, k1h⟩ W (hg.below h.2.2.2.2.2.2.2 hg.lt)).mono fun e w' ⟨⟨x, e', h1, h3⟩, hb⟩ => ⟨x, e', h1, (by show KOut R x e'; rw [HK.out]; exact h3), PW.out.later (h2.trans (hb.mono (PW.out.size ▸ h2.size))), ⟨(hb.cell (p := ⟨w.heap.size, 1, none⟩) (World.block_lt_of_cell? W _ h.1)).trans h.1, (hb.cell (p := ⟨kb, ko, none⟩) (World.block_lt_of_cell? W _ h.2.1)).trans h.2.1, (hb.cell (p := ⟨kb, ko + 1, none⟩) (World.block_lt_of_cell? W _ h.2.2.1)).trans h.2.2.1, (hb.cell (p := ⟨kb, ko + 2, none⟩) (World.block_lt_of_cell? W _ h.2.2.2.1)).trans h.2.2.2.1, (hb.cell (p := ⟨kb, ko + 3, none⟩) (World.block_lt_of_cell? W _ h.2.2.2.2.1)).trans h.2.2.2.2.1, (hb.cell (p := ⟨kb, ko + 3 + 1, none⟩) (World.block_lt_of_cell? W _ h.2.2.2.2.2.1)).trans h.2.2.2.2.2.1, (hb.cell (p := ⟨kb, ko + 3 + 2, none⟩) (World.block_lt_of_cell? W _ h.2.2.2.2.2.2.1)).trans h.2.2.2.2.2.2.1, h.2.2.2.2.2.2.2.trans (hb.mono h.2.2.2.2.2.2.2.size)⟩⟩
  have S0 : W0.cell? ⟨w.heap.size, 1, none⟩ = some (.int .i64 y.n) ∧ W0.cell? ⟨kb, ko, none⟩ = some (.int .i64 k0t) ∧ W0.cell? ⟨kb, ko + 1, none⟩ = some (.int .i64 k0l) ∧ W0.cell? ⟨kb, ko + 2, none⟩ = some (.int .i64 k0h) ∧ W0.cell? ⟨kb, ko + 3, none⟩ = some (.int .i64 k1t) ∧ W0.cell? ⟨kb, ko + 3 + 1, none⟩ = some (.int .i64 k1l) ∧ W0.cell? ⟨kb, ko + 3 + 2, none⟩ = some (.int .i64 k1h) ∧ Below w.heap.size w W0 := ⟨L0.p1, (PW.out.below.cell (p := ⟨kb, ko, none⟩) hkb).trans i0, (PW.out.below.cell (p := ⟨kb, ko + 1, none⟩) hkb).trans i1, (PW.out.below.cell (p := ⟨kb, ko + 2, none⟩) hkb).trans i2, (PW.out.below.cell (p := ⟨kb, ko + 3, none⟩) hkb).trans j0, (PW.out.below.cell (p := ⟨kb, ko + 3 + 1, none⟩) hkb).trans j1, (PW.out.below.cell (p := ⟨kb, ko + 3 + 2, none⟩) hkb).trans j2, PW.out.below⟩
  have D0 : Below (w.heap.size + 2) W0 W0.drew := (Below.refl _ W0).drew
  have hne : kb ≠ w.heap.size + 1 := by omega
  have w1 : IntKind.i64.wrap (((2 : Nat) : Int) - 1) = 1 := by decide
  have w2 : IntKind.i64.wrap 1 = 1 := by decide
  clear hk hI HK i0 i1 i2 j0 j1 j2 hg L0 hW0
  go_enter Tryz.func103, Tryz.ntmps103
  go_wp2_with fail
  rw [← HW0.out]
  go_region_held3 (fun W => W.cell? ⟨w.heap.size, 1, none⟩ = some (.int .i64 y.n) ∧ W.cell? ⟨kb, ko, none⟩ = some (.int .i64 k0t) ∧ W.cell? ⟨kb, ko + 1, none⟩ = some (.int .i64 k0l) ∧ W.cell? ⟨kb, ko + 2, none⟩ = some (.int .i64 k0h) ∧ W.cell? ⟨kb, ko + 3, none⟩ = some (.int .i64 k1t) ∧ W.cell? ⟨kb, ko + 3 + 1, none⟩ = some (.int .i64 k1l) ∧ W.cell? ⟨kb, ko + 3 + 2, none⟩ = some (.int .i64 k1h) ∧ Below w.heap.size w W) (first | assumption | exact ⟨S0.1, S0.2.1, S0.2.2.1, S0.2.2.2.1, S0.2.2.2.2.1, S0.2.2.2.2.2.1, S0.2.2.2.2.2.2.1, S0.2.2.2.2.2.2.2.drew⟩ | (with_reducible exact K2 _ _ _))
    (first | (go_at_call 142; refine (C.out _ ⟨?_, ?_⟩).mono ?_; assumption; assumption; rintro e W1 ⟨x, e', rfl, HF, L, hs⟩; have z0 := L.z0; have z1 := L.z1; have z2 := L.z2; have fz := L.fz; have K2 := fun a b c : Value => (show (((W1.setCell ⟨w.heap.size + 1, 0, none⟩ a).setCell ⟨w.heap.size + 1, 1, none⟩ b).setCell ⟨w.heap.size + 1, 2, none⟩ c).cell? ⟨w.heap.size, 1, none⟩ = some (.int .i64 y.n) ∧ (((W1.setCell ⟨w.heap.size + 1, 0, none⟩ a).setCell ⟨w.heap.size + 1, 1, none⟩ b).setCell ⟨w.heap.size + 1, 2, none⟩ c).cell? ⟨kb, ko, none⟩ = some (.int .i64 k0t) ∧ (((W1.setCell ⟨w.heap.size + 1, 0, none⟩ a).setCell ⟨w.heap.size + 1, 1, none⟩ b).setCell ⟨w.heap.size + 1, 2, none⟩ c).cell? ⟨kb, ko + 1, none⟩ = some (.int .i64 k0l) ∧ (((W1.setCell ⟨w.heap.size + 1, 0, none⟩ a).setCell ⟨w.heap.size + 1, 1, none⟩ b).setCell ⟨w.heap.size + 1, 2, none⟩ c).cell? ⟨kb, ko + 2, none⟩ = some (.int .i64 k0h) ∧ (((W1.setCell ⟨w.heap.size + 1, 0, none⟩ a).setCell ⟨w.heap.size + 1, 1, none⟩ b).setCell ⟨w.heap.size + 1, 2, none⟩ c).cell? ⟨kb, ko + 3, none⟩ = some (.int .i64 k1t) ∧ (((W1.setCell ⟨w.heap.size + 1, 0, none⟩ a).setCell ⟨w.heap.size + 1, 1, none⟩ b).setCell ⟨w.heap.size + 1, 2, none⟩ c).cell? ⟨kb, ko + 3 + 1, none⟩ = some (.int .i64 k1l) ∧ (((W1.setCell ⟨w.heap.size + 1, 0, none⟩ a).setCell ⟨w.heap.size + 1, 1, none⟩ b).setCell ⟨w.heap.size + 1, 2, none⟩ c).cell? ⟨kb, ko + 3 + 2, none⟩ = some (.int .i64 k1h) ∧ Below w.heap.size w (((W1.setCell ⟨w.heap.size + 1, 0, none⟩ a).setCell ⟨w.heap.size + 1, 1, none⟩ b).setCell ⟨w.heap.size + 1, 2, none⟩ c) from ⟨cell_set3 hs.1 (by omega) a b c, cell_set3 hs.2.1 (by omega) a b c, cell_set3 hs.2.2.1 (by omega) a b c, cell_set3 hs.2.2.2.1 (by omega) a b c, cell_set3 hs.2.2.2.2.1 (by omega) a b c, cell_set3 hs.2.2.2.2.2.1 (by omega) a b c, cell_set3 hs.2.2.2.2.2.2.1 (by omega) a b c, set3 hs.2.2.2.2.2.2.2 (by omega) a b c⟩)))
  all_goals
    have HB := hide L.below
    clear K2 C S0
    go_wp2
    refine bodyPost_ret (v := .tuple #[.agg #[.int .i64 x.typ, .int .i64 x.lo, .int .i64 x.hi], .int .i64 e']) (by simp [results, Tryz.results103, go_sem, *]) rfl ⟨⟨x, e', rfl, HF.out⟩, ?_⟩
    exact set3 HB.out (show w.heap.size ≤ w.heap.size + 1 by omega) _ _ _
end Go.Proofs.YtldjiieckddhkaaGreatDoor
namespace Go.Proofs.YtldjiieckddhkaaGreatDoor
open Go.RowKit Go.Sort
theorem bcell {W w1 : World} (hb : Below W.heap.size W w1) : (∀ b o, b < W.heap.size → w1.cell? ⟨b, o, none⟩ = W.cell? ⟨b, o, none⟩) ∧ (∀ b o, b < W.heap.size → w1.frozen? ⟨b, o, none⟩ = W.frozen? ⟨b, o, none⟩) :=
  ⟨fun b o h => hb.cell (p := ⟨b, o, none⟩) h, fun b o h => hb.frozen (p := ⟨b, o, none⟩) h⟩
set_option maxRecDepth 100000 in
set_option maxHeartbeats 3200000 in
theorem pk_to (v : Value) (vs : List Vr) (k0t k0l k0h : Int) (kb ko cp' : Nat) (y : Pv) (w : World) (hv : ∃ a n cp, v = .slice a n cp) (hg : Glo w) (hk : y.k = 6) (hkb : kb < w.heap.size) (hI : KAt w kb ko [⟨k0t, k0l, k0h⟩]) :
    Calls Tryz.prog 103 #[v, .agg #[.int .i64 y.k, .int .i64 y.n, .int .i64 y.t, .string y.s, .string y.f], .slice (some ⟨kb, ko, none⟩) 1 cp'] w (PkOut vs y [⟨k0t, k0l, k0h⟩] w) := by
  have HK : Hid (partK vs (ptV y) [⟨k0t, k0l, k0h⟩] = if kAmong ⟨k0t, k0l, k0h⟩ [2, 4] ≠ 0 then .error (kAmong ⟨k0t, k0l, k0h⟩ [2, 4]) else .ok (kT y.t)) := by
    show _ = _
    unfold partK
    have e6 : (ptV y).kind = 6 := hk
    rw [if_neg (by omega), if_neg (by omega), if_neg (by omega), if_neg (by omega), if_pos e6]; rfl
  unfold PkOut
  generalize partK vs (ptV y) [⟨k0t, k0l, k0h⟩] = R at *
  have HF : Hid (KOut R (kT y.t) (kAmong ⟨k0t, k0l, k0h⟩ [2, 4])) := by
    show KOut R (kT y.t) (kAmong ⟨k0t, k0l, k0h⟩ [2, 4])
    rw [HK.out]
    unfold KOut
    by_cases ha : kAmong ⟨k0t, k0l, k0h⟩ [2, 4] = 0
    · rw [if_neg (fun h => h ha)]; exact ⟨ha, rfl⟩
    · rw [if_pos ha]; exact ⟨rfl, ha⟩
  obtain ⟨W0, hW0⟩ : ∃ W0, W0 = ((w.alloc (.cells #[.int .i64 y.k, .int .i64 y.n, .int .i64 y.t, .string y.s, .string y.f] 38)).alloc (.cells #[.int .i64 0, .int .i64 0, .int .i64 0] 52)) := ⟨_, rfl⟩
  have PW := hide (show PkW w W0 y by rw [hW0]; exact PkW.mk' w y)
  have HW0 := hide hW0
  obtain ⟨a, n, cp, rfl⟩ := hv
  have L0 := PW.out.later (Below.refl _ W0)
  have hk1 : (y.k == 1) = false := by rw [hk]; rfl
  have hk2 : (y.k == 2) = false := by rw [hk]; rfl
  have hk3 : (y.k == 3) = false := by rw [hk]; rfl
  have hk4 : (y.k == 4) = false := by rw [hk]; rfl
  have hk6 : (y.k == 6) = true := by rw [hk]; rfl
  obtain ⟨i0, i1, i2⟩ := hI 0 _ rfl
  simp only [Nat.zero_mul, Nat.add_zero] at i0 i1 i2
  have C : Hid (∀ W g, (W.cell? ⟨w.heap.size, 2, none⟩ = some (.int .i64 y.t) ∧ W.cell? ⟨kb, ko, none⟩ = some (.int .i64 k0t) ∧ W.cell? ⟨kb, ko + 1, none⟩ = some (.int .i64 k0l) ∧ W.cell? ⟨kb, ko + 2, none⟩ = some (.int .i64 k0h) ∧ Below w.heap.size w W) → g < W.heap.size → W.cell? ⟨g, 0, none⟩ = some (.int .i64 2) → W.cell? ⟨g, 1, none⟩ = some (.int .i64 4) →
      Calls Tryz.prog 140 #[.agg #[.int .i64 k0t, .int .i64 k0l, .int .i64 k0h], .slice (some ⟨g, 0, none⟩) 2 2] W fun e w' => e = .returned (.int .i64 (kAmong ⟨k0t, k0l, k0h⟩ [2, 4])) ∧ (w'.cell? ⟨w.heap.size, 2, none⟩ = some (.int .i64 y.t) ∧ w'.cell? ⟨kb, ko, none⟩ = some (.int .i64 k0t) ∧ w'.cell? ⟨kb, ko + 1, none⟩ = some (.int .i64 k0l) ∧ w'.cell? ⟨kb, ko + 2, none⟩ = some (.int .i64 k0h) ∧ Below w.heap.size w w') ∧ (∀ b o, b < W.heap.size → w'.cell? ⟨b, o, none⟩ = W.cell? ⟨b, o, none⟩) ∧ (∀ b o, b < W.heap.size → w'.frozen? ⟨b, o, none⟩ = W.frozen? ⟨b, o, none⟩)) := fun W g h hgl c0 c1 =>
    (among_any k0t k0l k0h [2, 4] g 2 W (hg.below h.2.2.2.2 hg.lt) hgl (fun j t ht => by
      match j, ht with
      | 0, ht => obtain rfl := Option.some.inj ht; exact c0
      | 1, ht => obtain rfl := Option.some.inj ht; exact c1) (by simp)).mono fun e w' ⟨h1, hb⟩ => ⟨h1, ⟨(hb.cell (p := ⟨w.heap.size, 2, none⟩) (World.block_lt_of_cell? W _ h.1)).trans h.1, (hb.cell (p := ⟨kb, ko, none⟩) (World.block_lt_of_cell? W _ h.2.1)).trans h.2.1, (hb.cell (p := ⟨kb, ko + 1, none⟩) (World.block_lt_of_cell? W _ h.2.2.1)).trans h.2.2.1, (hb.cell (p := ⟨kb, ko + 2, none⟩) (World.block_lt_of_cell? W _ h.2.2.2.1)).trans h.2.2.2.1, h.2.2.2.2.trans (hb.mono h.2.2.2.2.size)⟩, bcell hb⟩
  have S0 : W0.cell? ⟨w.heap.size, 2, none⟩ = some (.int .i64 y.t) ∧ W0.cell? ⟨kb, ko, none⟩ = some (.int .i64 k0t) ∧ W0.cell? ⟨kb, ko + 1, none⟩ = some (.int .i64 k0l) ∧ W0.cell? ⟨kb, ko + 2, none⟩ = some (.int .i64 k0h) ∧ Below w.heap.size w W0 := ⟨L0.p2, (PW.out.below.cell (p := ⟨kb, ko, none⟩) hkb).trans i0, (PW.out.below.cell (p := ⟨kb, ko + 1, none⟩) hkb).trans i1, (PW.out.below.cell (p := ⟨kb, ko + 2, none⟩) hkb).trans i2, PW.out.below⟩
  have KA : ∀ {W : World}, (W.cell? ⟨w.heap.size, 2, none⟩ = some (.int .i64 y.t) ∧ W.cell? ⟨kb, ko, none⟩ = some (.int .i64 k0t) ∧ W.cell? ⟨kb, ko + 1, none⟩ = some (.int .i64 k0l) ∧ W.cell? ⟨kb, ko + 2, none⟩ = some (.int .i64 k0h) ∧ Below w.heap.size w W) → ∀ o, ((W.alloc o).cell? ⟨w.heap.size, 2, none⟩ = some (.int .i64 y.t) ∧ (W.alloc o).cell? ⟨kb, ko, none⟩ = some (.int .i64 k0t) ∧ (W.alloc o).cell? ⟨kb, ko + 1, none⟩ = some (.int .i64 k0l) ∧ (W.alloc o).cell? ⟨kb, ko + 2, none⟩ = some (.int .i64 k0h) ∧ Below w.heap.size w (W.alloc o)) := fun {W} h o =>
    have hb := (Below.refl W.heap.size W).alloc (Nat.le_refl _) o
    ⟨(hb.cell (p := ⟨w.heap.size, 2, none⟩) (World.block_lt_of_cell? W _ h.1)).trans h.1, (hb.cell (p := ⟨kb, ko, none⟩) (World.block_lt_of_cell? W _ h.2.1)).trans h.2.1, (hb.cell (p := ⟨kb, ko + 1, none⟩) (World.block_lt_of_cell? W _ h.2.2.1)).trans h.2.2.1, (hb.cell (p := ⟨kb, ko + 2, none⟩) (World.block_lt_of_cell? W _ h.2.2.2.1)).trans h.2.2.2.1, h.2.2.2.2.alloc h.2.2.2.2.size o⟩
  have hne : kb ≠ w.heap.size + 1 := by omega
  have KS : ∀ {W : World}, (W.cell? ⟨w.heap.size, 2, none⟩ = some (.int .i64 y.t) ∧ W.cell? ⟨kb, ko, none⟩ = some (.int .i64 k0t) ∧ W.cell? ⟨kb, ko + 1, none⟩ = some (.int .i64 k0l) ∧ W.cell? ⟨kb, ko + 2, none⟩ = some (.int .i64 k0h) ∧ Below w.heap.size w W) → ∀ a b c, (((((W.setCell ⟨w.heap.size + 1, 0, none⟩ a).setCell ⟨w.heap.size + 1, 1, none⟩ b).setCell ⟨w.heap.size + 1, 2, none⟩ c)).cell? ⟨w.heap.size, 2, none⟩ = some (.int .i64 y.t) ∧ ((((W.setCell ⟨w.heap.size + 1, 0, none⟩ a).setCell ⟨w.heap.size + 1, 1, none⟩ b).setCell ⟨w.heap.size + 1, 2, none⟩ c)).cell? ⟨kb, ko, none⟩ = some (.int .i64 k0t) ∧ ((((W.setCell ⟨w.heap.size + 1, 0, none⟩ a).setCell ⟨w.heap.size + 1, 1, none⟩ b).setCell ⟨w.heap.size + 1, 2, none⟩ c)).cell? ⟨kb, ko + 1, none⟩ = some (.int .i64 k0l) ∧ ((((W.setCell ⟨w.heap.size + 1, 0, none⟩ a).setCell ⟨w.heap.size + 1, 1, none⟩ b).setCell ⟨w.heap.size + 1, 2, none⟩ c)).cell? ⟨kb, ko + 2, none⟩ = some (.int .i64 k0h) ∧ Below w.heap.size w ((((W.setCell ⟨w.heap.size + 1, 0, none⟩ a).setCell ⟨w.heap.size + 1, 1, none⟩ b).setCell ⟨w.heap.size + 1, 2, none⟩ c))) := fun {W} h a b c =>
    ⟨cell_set3 h.1 (by omega) _ _ _, cell_set3 h.2.1 hne _ _ _, cell_set3 h.2.2.1 hne _ _ _, cell_set3 h.2.2.2.1 hne _ _ _, set3 h.2.2.2.2 (by omega) _ _ _⟩
  have K0 : W0.drew.cell? ⟨w.heap.size, 2, none⟩ = some (.int .i64 y.t) ∧ W0.drew.cell? ⟨kb, ko, none⟩ = some (.int .i64 k0t) ∧ W0.drew.cell? ⟨kb, ko + 1, none⟩ = some (.int .i64 k0l) ∧ W0.drew.cell? ⟨kb, ko + 2, none⟩ = some (.int .i64 k0h) ∧ Below w.heap.size w W0.drew := ⟨S0.1, S0.2.1, S0.2.2.1, S0.2.2.2.1, S0.2.2.2.2.drew⟩
  have KD : ∀ o, (W0.alloc o).drew.cell? ⟨w.heap.size, 2, none⟩ = some (.int .i64 y.t) ∧ (W0.alloc o).drew.cell? ⟨kb, ko, none⟩ = some (.int .i64 k0t) ∧ (W0.alloc o).drew.cell? ⟨kb, ko + 1, none⟩ = some (.int .i64 k0l) ∧ (W0.alloc o).drew.cell? ⟨kb, ko + 2, none⟩ = some (.int .i64 k0h) ∧ Below w.heap.size w (W0.alloc o).drew := fun o => have h := KA S0 o; ⟨h.1, h.2.1, h.2.2.1, h.2.2.2.1, h.2.2.2.2.drew⟩
  have ca : ∀ j u, (#[.int .i64 2, .int .i64 4] : Array Value)[j]? = some u → (W0.alloc (.cells #[.int .i64 2, .int .i64 4] 3)).cell? ⟨W0.heap.size, j, none⟩ = some u := fun j u h => by rw [Lib.cell_of_heap (heap_alloc_new W0 _)]; exact h
  have c := C.out ((W0.alloc (.cells #[.int .i64 2, .int .i64 4] 3)).drew) W0.heap.size (KD _) (by show W0.heap.size < (W0.alloc _).heap.size; rw [World.size_alloc]; omega) (ca 0 _ rfl) (ca 1 _ rfl)
  clear ca C
  have z0 := L0.z0
  have z1 := L0.z1
  have z2 := L0.z2
  have fz := L0.fz
  have lt := L0.lt
  have q9 : w.heap.size + 1 < ((W0.alloc (.cells #[.int .i64 2, .int .i64 4] 3)).drew).heap.size := by show _ < (W0.alloc _).heap.size; rw [World.size_alloc]; omega
  have q8 : ∀ j u, (#[.int .i64 0, .int .i64 0, .int .i64 0] : Array Value)[j]? = some u → ((W0.alloc (.cells #[.int .i64 2, .int .i64 4] 3)).drew).cell? ⟨w.heap.size + 1, j, none⟩ = some u := fun j u h => by
    show (W0.alloc _).cell? _ = _
    rw [Lib.cell_of_heap ((Lib.alloc_old W0 _ _ lt).trans PW.out.res)]; exact h
  have q7 : ∀ j, ((W0.alloc (.cells #[.int .i64 2, .int .i64 4] 3)).drew).frozen? ⟨w.heap.size + 1, j, none⟩ = false := fun j => Lib.frozen_of_heap (w := W0.alloc _) ((Lib.alloc_old W0 _ _ lt).trans PW.out.res) j
  clear hk hI HK i0 i1 i2 hg L0 hW0
  generalize kAmong ⟨k0t, k0l, k0h⟩ [2, 4] = AM at *
  go_enter Tryz.func103, Tryz.ntmps103
  go_wp2_with fail
  rw [← HW0.out]
  go_region_held3 (fun W => W.cell? ⟨w.heap.size, 2, none⟩ = some (.int .i64 y.t) ∧ W.cell? ⟨kb, ko, none⟩ = some (.int .i64 k0t) ∧ W.cell? ⟨kb, ko + 1, none⟩ = some (.int .i64 k0l) ∧ W.cell? ⟨kb, ko + 2, none⟩ = some (.int .i64 k0h) ∧ Below w.heap.size w W) (first | assumption | (with_reducible exact K0) | (with_reducible exact KD _) | (with_reducible exact KS hs _ _ _))
    (first | (go_at_call 140; refine c.mono ?_; rintro e W1 ⟨rfl, hs, hc, hf⟩; have c0 : W1.cell? ⟨w.heap.size + 1, 0, none⟩ = some (.int .i64 0) := (hc (w.heap.size + 1) 0 q9).trans (q8 0 _ rfl); have c1 : W1.cell? ⟨w.heap.size + 1, 1, none⟩ = some (.int .i64 0) := (hc (w.heap.size + 1) 1 q9).trans (q8 1 _ rfl); have c2 : W1.cell? ⟨w.heap.size + 1, 2, none⟩ = some (.int .i64 0) := (hc (w.heap.size + 1) 2 q9).trans (q8 2 _ rfl); have f0 : ∀ j, W1.frozen? ⟨w.heap.size + 1, j, none⟩ = false := fun j => (hf (w.heap.size + 1) j q9).trans (q7 j); clear hc hf))
  all_goals
    have HB := hide hs.2.2.2.2
    clear S0 KA KS KD K0 q7 q8 q9
    go_wp2
    refine bodyPost_ret (v := .tuple #[.agg #[.int .i64 y.t, .int .i64 0, .int .i64 0], .int .i64 AM]) (by simp [results, Tryz.results103, go_sem, *]) rfl ⟨⟨kT y.t, AM, rfl, HF.out⟩, ?_⟩
    exact set3 HB.out (show w.heap.size ≤ w.heap.size + 1 by omega) _ _ _
end Go.Proofs.YtldjiieckddhkaaGreatDoor
