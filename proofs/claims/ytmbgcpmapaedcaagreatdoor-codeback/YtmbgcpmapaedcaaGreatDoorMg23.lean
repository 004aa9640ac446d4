/- The contract of wire.faultOf: an error with or without a place. | The contract of wire.Decode. -/
import Derived.Test.YtmbgcpmapaedcaaGreatDoorMg22
import Derived.Test.YtmbgcpmapaedcaaGreatDoorWiListW
namespace Go.Proofs.YtmbgcpmapaedcaaGreatDoor.Wi
open Go.RowKit
theorem As_ref (t : Nat) (c : Int) (old : Value) (w : World) (hg : Glo w) (ht0 : w.cell? ⟨t, 0, none⟩ = some old) (hf0 : w.frozen? ⟨t, 0, none⟩ = false) :
    Calls Tryz.prog 88 #[.iface 122 (.int .i64 c), .iface 124 (.pointer (some ⟨t, 0, none⟩))] w fun e w' => e = .returned (.bool true) ∧ w'.cell? ⟨t, 0, none⟩ = some (.int .i64 c) ∧ Upd t w w' :=
  As63 122 (.int .i64 c) ⟨t, 0, none⟩ true (fun w' => w'.cell? ⟨t, 0, none⟩ = some (.int .i64 c) ∧ Upd t w w') w hg fun W a hb ha => by
    have hl := World.block_lt_of_cell? w _ ht0
    refine (as_ref t a c old W ha ((hb.cell (p := ⟨t, 0, none⟩) hl).trans ht0) ((hb.frozen (p := ⟨t, 0, none⟩) hl).trans hf0)).mono ?_
    rintro e w' ⟨h1, h2, h3⟩
    exact ⟨h1, h2, (Upd.of_below hb).trans h3⟩
theorem As_ref_w (t : Nat) (p c : Int) (old : Value) (w : World) (hg : Glo w) (ht0 : w.cell? ⟨t, 0, none⟩ = some old) (hf0 : w.frozen? ⟨t, 0, none⟩ = false) :
    Calls Tryz.prog 88 #[.iface 121 (.agg #[.int .i64 p, .iface 122 (.int .i64 c)]), .iface 124 (.pointer (some ⟨t, 0, none⟩))] w fun e w' => e = .returned (.bool true) ∧ w'.cell? ⟨t, 0, none⟩ = some (.int .i64 c) ∧ Upd t w w' :=
  As63 121 (.agg #[.int .i64 p, .iface 122 (.int .i64 c)]) ⟨t, 0, none⟩ true (fun w' => w'.cell? ⟨t, 0, none⟩ = some (.int .i64 c) ∧ Upd t w w') w hg fun W a hb ha => by
    have hl := World.block_lt_of_cell? w _ ht0
    refine (as_ref_w t a p c old W ha ((hb.cell (p := ⟨t, 0, none⟩) hl).trans ht0) ((hb.frozen (p := ⟨t, 0, none⟩) hl).trans hf0)).mono ?_
    rintro e w' ⟨h1, h2, h3⟩
    exact ⟨h1, h2, (Upd.of_below hb).trans h3⟩
theorem As_pl (t : Nat) (p c : Int) (o1 o2 : Value) (w : World) (hg : Glo w) (ht0 : w.cell? ⟨t, 0, none⟩ = some o1) (ht1 : w.cell? ⟨t, 1, none⟩ = some o2) (hf0 : w.frozen? ⟨t, 0, none⟩ = false) (hf1 : w.frozen? ⟨t, 1, none⟩ = false) :
    Calls Tryz.prog 88 #[.iface 121 (.agg #[.int .i64 p, .iface 122 (.int .i64 c)]), .iface 125 (.pointer (some ⟨t, 0, none⟩))] w fun e w' => e = .returned (.bool true) ∧ w'.cell? ⟨t, 0, none⟩ = some (.int .i64 p) ∧ Upd t w w' :=
  As64 121 (.agg #[.int .i64 p, .iface 122 (.int .i64 c)]) ⟨t, 0, none⟩ true (fun w' => w'.cell? ⟨t, 0, none⟩ = some (.int .i64 p) ∧ Upd t w w') w hg fun W a hb ha => by
    have hl := World.block_lt_of_cell? w _ ht0
    refine (as_pl t a p c o1 o2 W ha ((hb.cell (p := ⟨t, 0, none⟩) hl).trans ht0) ((hb.cell (p := ⟨t, 1, none⟩) hl).trans ht1) ((hb.frozen (p := ⟨t, 0, none⟩) hl).trans hf0) ((hb.frozen (p := ⟨t, 1, none⟩) hl).trans hf1)).mono ?_
    rintro e w' ⟨h1, h2, h3⟩
    exact ⟨h1, h2, (Upd.of_below hb).trans h3⟩
theorem As_miss (t : Addr) (c : Int) (w : World) (hg : Glo w) :
    Calls Tryz.prog 88 #[.iface 122 (.int .i64 c), .iface 125 (.pointer (some t))] w fun e w' => e = .returned (.bool false) ∧ Below w.heap.size w w' :=
  As64 122 (.int .i64 c) t false (fun w' => Below w.heap.size w w') w hg fun W a hb _ => by
    refine (as_miss _ a c W).mono ?_
    rintro e w' ⟨h1, h2⟩
    exact ⟨h1, hb.trans (h2.mono hb.size)⟩
set_option maxRecDepth 100000 in
set_option maxHeartbeats 4000000 in
theorem fault_ref (c : Int) (w : World) (hg : Glo w) :
    Calls Tryz.prog 61 #[.iface 122 (.int .i64 c)] w fun e w' => e = .returned (.agg #[.int .i64 0, .int .i64 c]) ∧ Below w.heap.size w w' := by
  have HG : Hid (Glo w) := hg
  have h0 := hg.lt
  clear hg
  go_enter Tryz.func61, Tryz.ntmps61
  go_wp2_with fail
  refine (As_ref (w.heap.size + 1 + 1) c (.int .i64 0) _ (HG.out.below (((((Below.refl w.heap.size w).alloc (Nat.le_refl _) _).alloc (by simp) _).alloc (by simp; omega) _)) h0) (by simp [go_sem]) (by simp [go_sem])).mono ?_
  rintro e w1 ⟨rfl, hc1, hu1⟩
  have z1 : w.heap.size + 1 + 1 + 1 ≤ w1.heap.size := by have := hu1.size; simpa using this
  have k00 : w1.cell? ⟨w.heap.size, 0, none⟩ = some (.int .i64 0) := (hu1.cell (by simp; omega) (by omega)).trans (by simp [go_sem])
  have k01 : w1.cell? ⟨w.heap.size, 1, none⟩ = some (.int .i64 0) := (hu1.cell (by simp; omega) (by omega)).trans (by simp [go_sem])
  have k10 : w1.cell? ⟨w.heap.size + 1, 0, none⟩ = some (.int .i64 0) := (hu1.cell (by simp) (by omega)).trans (by simp [go_sem])
  have k11 : w1.cell? ⟨w.heap.size + 1, 1, none⟩ = some (.int .i64 0) := (hu1.cell (by simp) (by omega)).trans (by simp [go_sem])
  have f00 : w1.frozen? ⟨w.heap.size, 0, none⟩ = false := (hu1.frozen (by simp; omega) (by omega)).trans (by simp [go_sem])
  have f01 : w1.frozen? ⟨w.heap.size, 1, none⟩ = false := (hu1.frozen (by simp; omega) (by omega)).trans (by simp [go_sem])
  have f11 : w1.frozen? ⟨w.heap.size + 1, 1, none⟩ = false := (hu1.frozen (by simp) (by omega)).trans (by simp [go_sem])
  have B1 : Hid (Below w.heap.size w w1) := hu1.below (((((Below.refl w.heap.size w).alloc (Nat.le_refl _) _).alloc (by simp) _).alloc (by simp; omega) _)) (by omega) (by simp; omega)
  clear hu1
  go_wp2_with fail
  have B2 : Hid (∀ A, Below w.heap.size w ((w1.setCell ⟨w.heap.size + 1, 1, none⟩ (.int .i64 c)).alloc A)) := fun A => (B1.out.setCell (by simp) _).alloc (by simp; omega) _
  refine (As_miss _ c _ (HG.out.below (B2.out _) h0)).mono ?_
  rintro e w2 ⟨rfl, hb2⟩
  have B3 : Hid (Below w.heap.size w w2) := (B2.out _).trans (hb2.mono (by simp; omega))
  have zz : w.heap.size + 1 + 1 + 1 ≤ (w1.setCell ⟨w.heap.size + 1, 1, none⟩ (.int .i64 c)).heap.size := by simpa using z1
  have m00 : w2.cell? ⟨w.heap.size, 0, none⟩ = some (.int .i64 0) := (hb2.cell (p := ⟨w.heap.size, 0, none⟩) (by simp; omega)).trans ((World.cell?_alloc_lt _ _ ⟨w.heap.size, 0, none⟩ (by show w.heap.size < _; omega)).trans ((World.cell?_setCell_other _ _ _ _ (by simp)).trans k00))
  have m01 : w2.cell? ⟨w.heap.size, 1, none⟩ = some (.int .i64 0) := (hb2.cell (p := ⟨w.heap.size, 1, none⟩) (by simp; omega)).trans ((World.cell?_alloc_lt _ _ ⟨w.heap.size, 1, none⟩ (by show w.heap.size < _; omega)).trans ((World.cell?_setCell_other _ _ _ _ (by simp)).trans k01))
  have m10 : w2.cell? ⟨w.heap.size + 1, 0, none⟩ = some (.int .i64 0) := (hb2.cell (p := ⟨w.heap.size + 1, 0, none⟩) (by simp; omega)).trans ((World.cell?_alloc_lt _ _ ⟨w.heap.size + 1, 0, none⟩ (by show w.heap.size + 1 < _; omega)).trans ((World.cell?_setCell_other _ _ _ _ (by simp)).trans k10))
  have m11 : w2.cell? ⟨w.heap.size + 1, 1, none⟩ = some (.int .i64 c) := (hb2.cell (p := ⟨w.heap.size + 1, 1, none⟩) (by simp; omega)).trans ((World.cell?_alloc_lt _ _ ⟨w.heap.size + 1, 1, none⟩ (by show w.heap.size + 1 < _; omega)).trans (World.cell?_setCell_same _ _ _ k11))
  have n00 : w2.frozen? ⟨w.heap.size, 0, none⟩ = false := (hb2.frozen (p := ⟨w.heap.size, 0, none⟩) (by simp; omega)).trans ((World.frozen?_alloc_old _ _ ⟨w.heap.size, 0, none⟩ (by show w.heap.size ≠ _; omega)).trans (by simpa using f00))
  have n01 : w2.frozen? ⟨w.heap.size, 1, none⟩ = false := (hb2.frozen (p := ⟨w.heap.size, 1, none⟩) (by simp; omega)).trans ((World.frozen?_alloc_old _ _ ⟨w.heap.size, 1, none⟩ (by show w.heap.size ≠ _; omega)).trans (by simpa using f01))
  clear hb2 k00 k01 k10 k11 f00 f01 f11 hc1 B1 B2 z1 zz
  go_wp2
  refine bodyPost_ret (v := .agg #[.int .i64 0, .int .i64 c]) ?_ rfl ⟨rfl, ?_⟩
  · simp [results, Tryz.results61, go_sem, m00, m01]
  · exact (B3.out.setCell (by simp) _).setCell (by simp) _
set_option maxRecDepth 100000 in
set_option maxHeartbeats 4000000 in
theorem fault_pl (p c : Int) (w : World) (hg : Glo w) :
    Calls Tryz.prog 61 #[.iface 121 (.agg #[.int .i64 p, .iface 122 (.int .i64 c)])] w fun e w' => e = .returned (.agg #[.int .i64 p, .int .i64 c]) ∧ Below w.heap.size w w' := by
  have HG : Hid (Glo w) := hg
  have h0 := hg.lt
  clear hg
  go_enter Tryz.func61, Tryz.ntmps61
  go_wp2_with fail
  refine (As_ref_w (w.heap.size + 1 + 1) p c (.int .i64 0) _ (HG.out.below (((((Below.refl w.heap.size w).alloc (Nat.le_refl _) _).alloc (by simp) _).alloc (by simp; omega) _)) h0) (by simp [go_sem]) (by simp [go_sem])).mono ?_
  rintro e w1 ⟨rfl, hc1, hu1⟩
  have z1 : w.heap.size + 1 + 1 + 1 ≤ w1.heap.size := by have := hu1.size; simpa using this
  have k00 : w1.cell? ⟨w.heap.size, 0, none⟩ = some (.int .i64 0) := (hu1.cell (by simp; omega) (by omega)).trans (by simp [go_sem])
  have k01 : w1.cell? ⟨w.heap.size, 1, none⟩ = some (.int .i64 0) := (hu1.cell (by simp; omega) (by omega)).trans (by simp [go_sem])
  have k10 : w1.cell? ⟨w.heap.size + 1, 0, none⟩ = some (.int .i64 0) := (hu1.cell (by simp) (by omega)).trans (by simp [go_sem])
  have k11 : w1.cell? ⟨w.heap.size + 1, 1, none⟩ = some (.int .i64 0) := (hu1.cell (by simp) (by omega)).trans (by simp [go_sem])
  have f00 : w1.frozen? ⟨w.heap.size, 0, none⟩ = false := (hu1.frozen (by simp; omega) (by omega)).trans (by simp [go_sem])
  have f01 : w1.frozen? ⟨w.heap.size, 1, none⟩ = false := (hu1.frozen (by simp; omega) (by omega)).trans (by simp [go_sem])
  have f10 : w1.frozen? ⟨w.heap.size + 1, 0, none⟩ = false := (hu1.frozen (by simp) (by omega)).trans (by simp [go_sem])
  have f11 : w1.frozen? ⟨w.heap.size + 1, 1, none⟩ = false := (hu1.frozen (by simp) (by omega)).trans (by simp [go_sem])
  have B1 : Hid (Below w.heap.size w w1) := hu1.below (((((Below.refl w.heap.size w).alloc (Nat.le_refl _) _).alloc (by simp) _).alloc (by simp; omega) _)) (by omega) (by simp; omega)
  clear hu1
  go_wp2_with fail
  have B2 : Hid (∀ A, Below w.heap.size w ((w1.setCell ⟨w.heap.size + 1, 1, none⟩ (.int .i64 c)).alloc A)) := fun A => (B1.out.setCell (by simp) _).alloc (by simp; omega) _
  have z2 : w.heap.size + 1 + 1 + 1 ≤ w1.heap.size := z1
  refine (As_pl w1.heap.size p c (.int .i64 0) .nilIface _ (HG.out.below (B2.out _) h0) (by simp [go_sem]) (by simp [go_sem]) (by simp [go_sem]) (by simp [go_sem])).mono ?_
  rintro e w2 ⟨rfl, hp2, hb2⟩
  have B3 : Hid (Below w.heap.size w w2) := hb2.below (B2.out _) (by omega) (by simp; omega)
  have zz : w.heap.size + 1 + 1 + 1 ≤ (w1.setCell ⟨w.heap.size + 1, 1, none⟩ (.int .i64 c)).heap.size := by simpa using z1
  have m00 : w2.cell? ⟨w.heap.size, 0, none⟩ = some (.int .i64 0) := (hb2.cell (by simp; omega) (by omega)).trans ((World.cell?_alloc_lt _ _ ⟨w.heap.size, 0, none⟩ (by show w.heap.size < _; omega)).trans ((World.cell?_setCell_other _ _ _ _ (by simp)).trans k00))
  have m01 : w2.cell? ⟨w.heap.size, 1, none⟩ = some (.int .i64 0) := (hb2.cell (by simp; omega) (by omega)).trans ((World.cell?_alloc_lt _ _ ⟨w.heap.size, 1, none⟩ (by show w.heap.size < _; omega)).trans ((World.cell?_setCell_other _ _ _ _ (by simp)).trans k01))
  have m10 : w2.cell? ⟨w.heap.size + 1, 0, none⟩ = some (.int .i64 0) := (hb2.cell (by simp; omega) (by omega)).trans ((World.cell?_alloc_lt _ _ ⟨w.heap.size + 1, 0, none⟩ (by show w.heap.size + 1 < _; omega)).trans ((World.cell?_setCell_other _ _ _ _ (by simp)).trans k10))
  have m11 : w2.cell? ⟨w.heap.size + 1, 1, none⟩ = some (.int .i64 c) := (hb2.cell (by simp; omega) (by omega)).trans ((World.cell?_alloc_lt _ _ ⟨w.heap.size + 1, 1, none⟩ (by show w.heap.size + 1 < _; omega)).trans (World.cell?_setCell_same _ _ _ k11))
  have n00 : w2.frozen? ⟨w.heap.size, 0, none⟩ = false := (hb2.frozen (by simp; omega) (by omega)).trans ((World.frozen?_alloc_old _ _ ⟨w.heap.size, 0, none⟩ (by show w.heap.size ≠ _; omega)).trans (by simpa using f00))
  have n01 : w2.frozen? ⟨w.heap.size, 1, none⟩ = false := (hb2.frozen (by simp; omega) (by omega)).trans ((World.frozen?_alloc_old _ _ ⟨w.heap.size, 1, none⟩ (by show w.heap.size ≠ _; omega)).trans (by simpa using f01))
  have n10 : w2.frozen? ⟨w.heap.size + 1, 0, none⟩ = false := (hb2.frozen (by simp; omega) (by omega)).trans ((World.frozen?_alloc_old _ _ ⟨w.heap.size + 1, 0, none⟩ (by show w.heap.size + 1 ≠ _; omega)).trans (by simpa using f10))
  clear hb2 k00 k01 k10 k11 f00 f01 f10 f11 hc1 B1 B2 z1 z2 zz
  go_wp2
  refine bodyPost_ret (v := .agg #[.int .i64 p, .int .i64 c]) ?_ rfl ⟨rfl, ?_⟩
  · simp [results, Tryz.results61, go_sem, m00, m01]
  · exact ((B3.out.setCell (by simp) _).setCell (by simp) _).setCell (by simp) _
end Go.Proofs.YtmbgcpmapaedcaaGreatDoor.Wi
namespace Go.Proofs.YtmbgcpmapaedcaaGreatDoor.Wi
open Go.RowKit
theorem owns_base {w : World} {base b e size n : Nat} {v : Value} {xs : List Value} (h : w.ownsRow base e size v n xs) (hb : b ≤ base) : w.ownsRow b e size v n xs := by
  refine ⟨h.1, ?_⟩
  rcases h.2 with h0 | ⟨g, cap, cur, hv, hg, r⟩
  · exact .inl h0
  · exact .inr ⟨g, cap, cur, hv, Nat.le_trans hb hg, r⟩
/-- what Decode leaves -/
def DecOut (B : List UInt8) (w : World) (e : Ending) (w' : World) : Prop :=
  ∃ (v : Value) (l : List It) (p : Nat) (c : Int), decB B = (l, p, c) ∧ e = .returned (.tuple #[v, .agg #[.int .i64 (p : Int), .int .i64 c]]) ∧ w'.ownsRow w.heap.size 61 3 v l.length (itsC l) ∧ Below w.heap.size w w'
theorem owns_set {w : World} {base e size n : Nat} {v : Value} {xs : List Value} (h : w.ownsRow base e size v n xs) (b o : Nat) (hb : b < base) (u : Value) : (w.setCell ⟨b, o, none⟩ u).ownsRow base e size v n xs := by
  refine ⟨h.1, ?_⟩
  rcases h.2 with h0 | ⟨g, cap, cur, hv, hg, hh, r⟩
  · exact .inl h0
  · exact .inr ⟨g, cap, cur, hv, hg, by rw [Below.heap_setCell _ _ _ _ (by show g ≠ b; omega)]; exact hh, r⟩
set_option maxRecDepth 100000 in
set_option maxHeartbeats 1600000 in
theorem decode_any (s : ByteArray) (hs : s.size ≤ 140737488355328) (w : World) (hg : Glo w) :
    Calls Tryz.prog 29 #[.string s] w (DecOut s.data.toList w) := by
  have HG := hide hg
  have h0 := hg.lt
  have c1 := fun W => readList_any s hs W
  clear hs hg
  go_enter Tryz.func29, Tryz.ntmps29
  go_wp2_with fail
  refine (c1 _).mono ?_
  rintro e w1 ⟨v, er, rfl, ⟨l, p, c, hdec, hcase⟩, hb1⟩
  have z1 : w.heap.size + 1 ≤ w1.heap.size := by have := hb1.size; simpa using this
  have k0 : w1.cell? ⟨w.heap.size, 0, none⟩ = some (.int .i64 0) := (hb1.cell (p := ⟨w.heap.size, 0, none⟩) (by simp)).trans (by simp)
  have k1 : w1.cell? ⟨w.heap.size, 1, none⟩ = some (.int .i64 0) := (hb1.cell (p := ⟨w.heap.size, 1, none⟩) (by simp)).trans (by simp)
  have f0 : w1.frozen? ⟨w.heap.size, 0, none⟩ = false := (hb1.frozen (p := ⟨w.heap.size, 0, none⟩) (by simp)).trans (by simp)
  have f1 : w1.frozen? ⟨w.heap.size, 1, none⟩ = false := (hb1.frozen (p := ⟨w.heap.size, 1, none⟩) (by simp)).trans (by simp)
  have B1 : Hid (Below w.heap.size w w1) := ((Below.refl _ _).alloc (Nat.le_refl _) _).trans (hb1.mono (by simp))
  have HD := hide hdec
  clear hb1 c1 hdec
  rcases hcase with ⟨rfl, rfl, rfl, hown⟩ | ⟨hc, rfl, rfl, ⟨rfl, rfl⟩ | rfl⟩
  · have HO : Hid (w1.ownsRow (w.heap.size + 1) 61 3 v l.length (itsC l)) := hide (by simpa using hown)
    clear hown
    go_wp2
    refine bodyPost_ret (v := .tuple #[v, .agg #[.int .i64 0, .int .i64 0]]) ?_ rfl ⟨v, l, 0, 0, HD.out, rfl, ?_, ?_⟩
    · simp [results, Tryz.results29, go_sem, k0, k1]
    · exact owns_base (owns_set (owns_set HO.out _ _ (by omega) _) _ _ (by omega) _) (by omega)
    · exact (B1.out.setCell (by simp) _).setCell (by simp) _
  · go_wp2_with fail
    refine (fault_ref c _ (HG.out.below B1.out h0)).mono ?_
    rintro e w2 ⟨rfl, hb2⟩
    have m0 : w2.cell? ⟨w.heap.size, 0, none⟩ = some (.int .i64 0) := (hb2.cell (p := ⟨w.heap.size, 0, none⟩) (by show w.heap.size < _; omega)).trans k0
    have m1 : w2.cell? ⟨w.heap.size, 1, none⟩ = some (.int .i64 0) := (hb2.cell (p := ⟨w.heap.size, 1, none⟩) (by show w.heap.size < _; omega)).trans k1
    have n0 : w2.frozen? ⟨w.heap.size, 0, none⟩ = false := (hb2.frozen (p := ⟨w.heap.size, 0, none⟩) (by show w.heap.size < _; omega)).trans f0
    have n1 : w2.frozen? ⟨w.heap.size, 1, none⟩ = false := (hb2.frozen (p := ⟨w.heap.size, 1, none⟩) (by show w.heap.size < _; omega)).trans f1
    have B2 : Hid (Below w.heap.size w w2) := B1.out.trans (hb2.mono (by omega))
    clear hb2 k0 k1 f0 f1 B1
    go_wp2
    refine bodyPost_ret (v := .tuple #[.slice none 0 0, .agg #[.int .i64 0, .int .i64 c]]) ?_ rfl ⟨_, [], 0, c, HD.out, rfl, World.ownsRow_nil _ _ _ _, ?_⟩
    · simp [results, Tryz.results29, go_sem, m0, m1]
    · exact (B2.out.setCell (by simp) _).setCell (by simp) _
  · go_wp2_with fail
    refine (fault_pl (p : Int) c _ (HG.out.below B1.out h0)).mono ?_
    rintro e w2 ⟨rfl, hb2⟩
    have m0 : w2.cell? ⟨w.heap.size, 0, none⟩ = some (.int .i64 0) := (hb2.cell (p := ⟨w.heap.size, 0, none⟩) (by show w.heap.size < _; omega)).trans k0
    have m1 : w2.cell? ⟨w.heap.size, 1, none⟩ = some (.int .i64 0) := (hb2.cell (p := ⟨w.heap.size, 1, none⟩) (by show w.heap.size < _; omega)).trans k1
    have n0 : w2.frozen? ⟨w.heap.size, 0, none⟩ = false := (hb2.frozen (p := ⟨w.heap.size, 0, none⟩) (by show w.heap.size < _; omega)).trans f0
    have n1 : w2.frozen? ⟨w.heap.size, 1, none⟩ = false := (hb2.frozen (p := ⟨w.heap.size, 1, none⟩) (by show w.heap.size < _; omega)).trans f1
    have B2 : Hid (Below w.heap.size w w2) := B1.out.trans (hb2.mono (by omega))
    clear hb2 k0 k1 f0 f1 B1
    go_wp2
    refine bodyPost_ret (v := .tuple #[.slice none 0 0, .agg #[.int .i64 (p : Int), .int .i64 c]]) ?_ rfl ⟨_, [], p, c, HD.out, rfl, World.ownsRow_nil _ _ _ _, ?_⟩
    · simp [results, Tryz.results29, go_sem, m0, m1]
    · exact (B2.out.setCell (by simp) _).setCell (by simp) _
end Go.Proofs.YtmbgcpmapaedcaaGreatDoor.Wi
