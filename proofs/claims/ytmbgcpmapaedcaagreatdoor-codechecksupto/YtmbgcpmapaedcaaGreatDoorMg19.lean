/- The contract of wire.faultOf: an error with or without a place. | The contract of wire.Decode. | The contracts of wire.appendPair and wire.appendNumber. | The contract of wire.appendNumber. -/
import Derived.Test.YtmbgcpmapaedcaaGreatDoorMg18
import Derived.Test.YtmbgcpmapaedcaaGreatDoorMg17
namespace Go.Proofs.YtmbgcpmapaedcaaGreatDoor.Wi
open Go.RowKit
theorem As_ref (t : Nat) (c : Int) (old : Value) (w : World) (hg : Glo w) (ht0 : w.cell? ⟨t, 0, none⟩ = some old) (hf0 : w.frozen? ⟨t, 0, none⟩ = false) :
    Calls Tryz.prog 88 #[.iface 122 (.int .i64 c), .iface 124 (.pointer (some ⟨t, 0, none⟩))] w fun e w' => e = .returned (.bool true) ∧ w'.cell? ⟨t, 0, none⟩ = some (.int .i64 c) ∧ Upd t w w' :=
  As63 122 (.int .i64 c) ⟨t, 0, none⟩ true (fun w' => w'.cell? ⟨t, 0, none⟩ = some (.int .i64 c) ∧ Upd t w w') w hg fun W a hb ha => by
    have hl := World.block_lt_of_cell? w _ ht0
    refine (as_ref t a c old W ha ((hb.cell (p := ⟨t, 0, none⟩) hl).trans ht0) ((hb.frozen (p := ⟨t, 0, none⟩) hl).trans hf0)).mono ?_
    rintro e w' ⟨h1, h2, h3⟩
    exact ⟨h1, h2, (Upd.of_below hb).trans h3⟩
theorem As_ref_w (t : Nat) (p c : Int) (old : Value) (w : World) (hg : Glo w) (ht0 : w.cell? ⟨t, 0, none⟩ = some old) (hf0 : w.frozen? ⟨t, 0, none⟩ = false) :
    Calls Tryz.prog 88 #[.iface 121 (.agg #[.int .i64 p, .iface 122 (.int .i64 c)]), .iface 124 (.pointer (some ⟨t, 0, none⟩))] w fun e w' => e = .returned (.bool true) ∧ w'.cell? ⟨t, 0, none⟩ = some (.int .i64 c) ∧ Upd t w w' :=
  As63 121 (.agg #[.int .i64 p, .iface 122 (.int .i64 c)]) ⟨t, 0, none⟩ true (fun w' => w'.cell? ⟨t, 0, none⟩ = some (.int .i64 c) ∧ Upd t w w') w hg fun W a hb ha => by
    have hl := World.block_lt_of_cell? w _ ht0
    refine (as_ref_w t a p c old W ha ((hb.cell (p := ⟨t, 0, none⟩) hl).trans ht0) ((hb.frozen (p := ⟨t, 0, none⟩) hl).trans hf0)).mono ?_
    rintro e w' ⟨h1, h2, h3⟩
    exact ⟨h1, h2, (Upd.of_below hb).trans h3⟩
theorem As_pl (t : Nat) (p c : Int) (o1 o2 : Value) (w : World) (hg : Glo w) (ht0 : w.cell? ⟨t, 0, none⟩ = some o1) (ht1 : w.cell? ⟨t, 1, none⟩ = some o2) (hf0 : w.frozen? ⟨t, 0, none⟩ = false) (hf1 : w.frozen? ⟨t, 1, none⟩ = false) :
    Calls Tryz.prog 88 #[.iface 121 (.agg #[.int .i64 p, .iface 122 (.int .i64 c)]), .iface 125 (.pointer (some ⟨t, 0, none⟩))] w fun e w' => e = .returned (.bool true) ∧ w'.cell? ⟨t, 0, none⟩ = some (.int .i64 p) ∧ Upd t w w' :=
  As64 121 (.agg #[.int .i64 p, .iface 122 (.int .i64 c)]) ⟨t, 0, none⟩ true (fun w' => w'.cell? ⟨t, 0, none⟩ = some (.int .i64 p) ∧ Upd t w w') w hg fun W a hb ha => by
    have hl := World.block_lt_of_cell? w _ ht0
    refine (as_pl t a p c o1 o2 W ha ((hb.cell (p := ⟨t, 0, none⟩) hl).trans ht0) ((hb.cell (p := ⟨t, 1, none⟩) hl).trans ht1) ((hb.frozen (p := ⟨t, 0, none⟩) hl).trans hf0) ((hb.frozen (p := ⟨t, 1, none⟩) hl).trans hf1)).mono ?_
    rintro e w' ⟨h1, h2, h3⟩
    exact ⟨h1, h2, (Upd.of_below hb).trans h3⟩
theorem As_miss (t : Addr) (c : Int) (w : World) (hg : Glo w) :
    Calls Tryz.prog 88 #[.iface 122 (.int .i64 c), .iface 125 (.pointer (some t))] w fun e w' => e = .returned (.bool false) ∧ Below w.heap.size w w' :=
  As64 122 (.int .i64 c) t false (fun w' => Below w.heap.size w w') w hg fun W a hb _ => by
    refine (as_miss _ a c W).mono ?_
    rintro e w' ⟨h1, h2⟩
    exact ⟨h1, hb.trans (h2.mono hb.size)⟩
set_option maxRecDepth 100000 in
set_option maxHeartbeats 4000000 in
theorem fault_ref (c : Int) (w : World) (hg : Glo w) :
    Calls Tryz.prog 61 #[.iface 122 (.int .i64 c)] w fun e w' => e = .returned (.agg #[.int .i64 0, .int .i64 c]) ∧ Below w.heap.size w w' := by
  have HG : Hid (Glo w) := hg
  have h0 := hg.lt
  clear hg
  go_enter Tryz.func61, Tryz.ntmps61
  go_wp2_with fail
  refine (As_ref (w.heap.size + 1 + 1) c (.int .i64 0) _ (HG.out.below (((((Below.refl w.heap.size w).alloc (Nat.le_refl _) _).alloc (by simp) _).alloc (by simp; omega) _)) h0) (by simp [go_sem]) (by simp [go_sem])).mono ?_
  rintro e w1 ⟨rfl, hc1, hu1⟩
  have z1 : w.heap.size + 1 + 1 + 1 ≤ w1.heap.size := by have := hu1.size; simpa using this
  have k00 : w1.cell? ⟨w.heap.size, 0, none⟩ = some (.int .i64 0) := (hu1.cell (by simp; omega) (by omega)).trans (by simp [go_sem])
  have k01 : w1.cell? ⟨w.heap.size, 1, none⟩ = some (.int .i64 0) := (hu1.cell (by simp; omega) (by omega)).trans (by simp [go_sem])
  have k10 : w1.cell? ⟨w.heap.size + 1, 0, none⟩ = some (.int .i64 0) := (hu1.cell (by simp) (by omega)).trans (by simp [go_sem])
  have k11 : w1.cell? ⟨w.heap.size + 1, 1, none⟩ = some (.int .i64 0) := (hu1.cell (by simp) (by omega)).trans (by simp [go_sem])
  have f00 : w1.frozen? ⟨w.heap.size, 0, none⟩ = false := (hu1.frozen (by simp; omega) (by omega)).trans (by simp [go_sem])
  have f01 : w1.frozen? ⟨w.heap.size, 1, none⟩ = false := (hu1.frozen (by simp; omega) (by omega)).trans (by simp [go_sem])
  have f11 : w1.frozen? ⟨w.heap.size + 1, 1, none⟩ = false := (hu1.frozen (by simp) (by omega)).trans (by simp [go_sem])
  have B1 : Hid (Below w.heap.size w w1) := hu1.below (((((Below.refl w.heap.size w).alloc (Nat.le_refl _) _).alloc (by simp) _).alloc (by simp; omega) _)) (by omega) (by simp; omega)
  clear hu1
  go_wp2_with fail
  have B2 : Hid (∀ A, Below w.heap.size w ((w1.setCell ⟨w.heap.size + 1, 1, none⟩ (.int .i64 c)).alloc A)) := fun A => (B1.out.setCell (by simp) _).alloc (by simp; omega) _
  refine (As_miss _ c _ (HG.out.below (B2.out _) h0)).mono ?_
  rintro e w2 ⟨rfl, hb2⟩
  have B3 : Hid (Below w.heap.size w w2) := (B2.out _).trans (hb2.mono (by simp; omega))
  have zz : w.heap.size + 1 + 1 + 1 ≤ (w1.setCell ⟨w.heap.size + 1, 1, none⟩ (.int .i64 c)).heap.size := by simpa using z1
  have m00 : w2.cell? ⟨w.heap.size, 0, none⟩ = some (.int .i64 0) := (hb2.cell (p := ⟨w.heap.size, 0, none⟩) (by simp; omega)).trans ((World.cell?_alloc_lt _ _ ⟨w.heap.size, 0, none⟩ (by show w.heap.size < _; omega)).trans ((World.cell?_setCell_other _ _ _ _ (by simp)).trans k00))
  have m01 : w2.cell? ⟨w.heap.size, 1, none⟩ = some (.int .i64 0) := (hb2.cell (p := ⟨w.heap.size, 1, none⟩) (by simp; omega)).trans ((World.cell?_alloc_lt _ _ ⟨w.heap.size, 1, none⟩ (by show w.heap.size < _; omega)).trans ((World.cell?_setCell_other _ _ _ _ (by simp)).trans k01))
  have m10 : w2.cell? ⟨w.heap.size + 1, 0, none⟩ = some (.int .i64 0) := (hb2.cell (p := ⟨w.heap.size + 1, 0, none⟩) (by simp; omega)).trans ((World.cell?_alloc_lt _ _ ⟨w.heap.size + 1, 0, none⟩ (by show w.heap.size + 1 < _; omega)).trans ((World.cell?_setCell_other _ _ _ _ (by simp)).trans k10))
  have m11 : w2.cell? ⟨w.heap.size + 1, 1, none⟩ = some (.int .i64 c) := (hb2.cell (p := ⟨w.heap.size + 1, 1, none⟩) (by simp; omega)).trans ((World.cell?_alloc_lt _ _ ⟨w.heap.size + 1, 1, none⟩ (by show w.heap.size + 1 < _; omega)).trans (World.cell?_setCell_same _ _ _ k11))
  have n00 : w2.frozen? ⟨w.heap.size, 0, none⟩ = false := (hb2.frozen (p := ⟨w.heap.size, 0, none⟩) (by simp; omega)).trans ((World.frozen?_alloc_old _ _ ⟨w.heap.size, 0, none⟩ (by show w.heap.size ≠ _; omega)).trans (by simpa using f00))
  have n01 : w2.frozen? ⟨w.heap.size, 1, none⟩ = false := (hb2.frozen (p := ⟨w.heap.size, 1, none⟩) (by simp; omega)).trans ((World.frozen?_alloc_old _ _ ⟨w.heap.size, 1, none⟩ (by show w.heap.size ≠ _; omega)).trans (by simpa using f01))
  clear hb2 k00 k01 k10 k11 f00 f01 f11 hc1 B1 B2 z1 zz
  go_wp2
  refine bodyPost_ret (v := .agg #[.int .i64 0, .int .i64 c]) ?_ rfl ⟨rfl, ?_⟩
  · simp [results, Tryz.results61, go_sem, m00, m01]
  · exact (B3.out.setCell (by simp) _).setCell (by simp) _
set_option maxRecDepth 100000 in
set_option maxHeartbeats 4000000 in
theorem fault_pl (p c : Int) (w : World) (hg : Glo w) :
    Calls Tryz.prog 61 #[.iface 121 (.agg #[.int .i64 p, .iface 122 (.int .i64 c)])] w fun e w' => e = .returned (.agg #[.int .i64 p, .int .i64 c]) ∧ Below w.heap.size w w' := by
  have HG : Hid (Glo w) := hg
  have h0 := hg.lt
  clear hg
  go_enter Tryz.func61, Tryz.ntmps61
  go_wp2_with fail
  refine (As_ref_w (w.heap.size + 1 + 1) p c (.int .i64 0) _ (HG.out.below (((((Below.refl w.heap.size w).alloc (Nat.le_refl _) _).alloc (by simp) _).alloc (by simp; omega) _)) h0) (by simp [go_sem]) (by simp [go_sem])).mono ?_
  rintro e w1 ⟨rfl, hc1, hu1⟩
  have z1 : w.heap.size + 1 + 1 + 1 ≤ w1.heap.size := by have := hu1.size; simpa using this
  have k00 : w1.cell? ⟨w.heap.size, 0, none⟩ = some (.int .i64 0) := (hu1.cell (by simp; omega) (by omega)).trans (by simp [go_sem])
  have k01 : w1.cell? ⟨w.heap.size, 1, none⟩ = some (.int .i64 0) := (hu1.cell (by simp; omega) (by omega)).trans (by simp [go_sem])
  have k10 : w1.cell? ⟨w.heap.size + 1, 0, none⟩ = some (.int .i64 0) := (hu1.cell (by simp) (by omega)).trans (by simp [go_sem])
  have k11 : w1.cell? ⟨w.heap.size + 1, 1, none⟩ = some (.int .i64 0) := (hu1.cell (by simp) (by omega)).trans (by simp [go_sem])
  have f00 : w1.frozen? ⟨w.heap.size, 0, none⟩ = false := (hu1.frozen (by simp; omega) (by omega)).trans (by simp [go_sem])
  have f01 : w1.frozen? ⟨w.heap.size, 1, none⟩ = false := (hu1.frozen (by simp; omega) (by omega)).trans (by simp [go_sem])
  have f10 : w1.frozen? ⟨w.heap.size + 1, 0, none⟩ = false := (hu1.frozen (by simp) (by omega)).trans (by simp [go_sem])
  have f11 : w1.frozen? ⟨w.heap.size + 1, 1, none⟩ = false := (hu1.frozen (by simp) (by omega)).trans (by simp [go_sem])
  have B1 : Hid (Below w.heap.size w w1) := hu1.below (((((Below.refl w.heap.size w).alloc (Nat.le_refl _) _).alloc (by simp) _).alloc (by simp; omega) _)) (by omega) (by simp; omega)
  clear hu1
  go_wp2_with fail
  have B2 : Hid (∀ A, Below w.heap.size w ((w1.setCell ⟨w.heap.size + 1, 1, none⟩ (.int .i64 c)).alloc A)) := fun A => (B1.out.setCell (by simp) _).alloc (by simp; omega) _
  have z2 : w.heap.size + 1 + 1 + 1 ≤ w1.heap.size := z1
  refine (As_pl w1.heap.size p c (.int .i64 0) .nilIface _ (HG.out.below (B2.out _) h0) (by simp [go_sem]) (by simp [go_sem]) (by simp [go_sem]) (by simp [go_sem])).mono ?_
  rintro e w2 ⟨rfl, hp2, hb2⟩
  have B3 : Hid (Below w.heap.size w w2) := hb2.below (B2.out _) (by omega) (by simp; omega)
  have zz : w.heap.size + 1 + 1 + 1 ≤ (w1.setCell ⟨w.heap.size + 1, 1, none⟩ (.int .i64 c)).heap.size := by simpa using z1
  have m00 : w2.cell? ⟨w.heap.size, 0, none⟩ = some (.int .i64 0) := (hb2.cell (by simp; omega) (by omega)).trans ((World.cell?_alloc_lt _ _ ⟨w.heap.size, 0, none⟩ (by show w.heap.size < _; omega)).trans ((World.cell?_setCell_other _ _ _ _ (by simp)).trans k00))
  have m01 : w2.cell? ⟨w.heap.size, 1, none⟩ = some (.int .i64 0) := (hb2.cell (by simp; omega) (by omega)).trans ((World.cell?_alloc_lt _ _ ⟨w.heap.size, 1, none⟩ (by show w.heap.size < _; omega)).trans ((World.cell?_setCell_other _ _ _ _ (by simp)).trans k01))
  have m10 : w2.cell? ⟨w.heap.size + 1, 0, none⟩ = some (.int .i64 0) := (hb2.cell (by simp; omega) (by omega)).trans ((World.cell?_alloc_lt _ _ ⟨w.heap.size + 1, 0, none⟩ (by show w.heap.size + 1 < _; omega)).trans ((World.cell?_setCell_other _ _ _ _ (by simp)).trans k10))
  have m11 : w2.cell? ⟨w.heap.size + 1, 1, none⟩ = some (.int .i64 c) := (hb2.cell (by simp; omega) (by omega)).trans ((World.cell?_alloc_lt _ _ ⟨w.heap.size + 1, 1, none⟩ (by show w.heap.size + 1 < _; omega)).trans (World.cell?_setCell_same _ _ _ k11))
  have n00 : w2.frozen? ⟨w.heap.size, 0, none⟩ = false := (hb2.frozen (by simp; omega) (by omega)).trans ((World.frozen?_alloc_old _ _ ⟨w.heap.size, 0, none⟩ (by show w.heap.size ≠ _; omega)).trans (by simpa using f00))
  have n01 : w2.frozen? ⟨w.heap.size, 1, none⟩ = false := (hb2.frozen (by simp; omega) (by omega)).trans ((World.frozen?_alloc_old _ _ ⟨w.heap.size, 1, none⟩ (by show w.heap.size ≠ _; omega)).trans (by simpa using f01))
  have n10 : w2.frozen? ⟨w.heap.size + 1, 0, none⟩ = false := (hb2.frozen (by simp; omega) (by omega)).trans ((World.frozen?_alloc_old _ _ ⟨w.heap.size + 1, 0, none⟩ (by show w.heap.size + 1 ≠ _; omega)).trans (by simpa using f10))
  clear hb2 k00 k01 k10 k11 f00 f01 f10 f11 hc1 B1 B2 z1 z2 zz
  go_wp2
  refine bodyPost_ret (v := .agg #[.int .i64 p, .int .i64 c]) ?_ rfl ⟨rfl, ?_⟩
  · simp [results, Tryz.results61, go_sem, m00, m01]
  · exact ((B3.out.setCell (by simp) _).setCell (by simp) _).setCell (by simp) _
end Go.Proofs.YtmbgcpmapaedcaaGreatDoor.Wi
namespace Go.Proofs.YtmbgcpmapaedcaaGreatDoor.Wi
open Go.RowKit
theorem owns_base {w : World} {base b e size n : Nat} {v : Value} {xs : List Value} (h : w.ownsRow base e size v n xs) (hb : b ≤ base) : w.ownsRow b e size v n xs := by
  refine ⟨h.1, ?_⟩
  rcases h.2 with h0 | ⟨g, cap, cur, hv, hg, r⟩
  · exact .inl h0
  · exact .inr ⟨g, cap, cur, hv, Nat.le_trans hb hg, r⟩
/-- what Decode leaves -/
def DecOut (B : List UInt8) (w : World) (e : Ending) (w' : World) : Prop :=
  ∃ (v : Value) (l : List It) (p : Nat) (c : Int), decB B = (l, p, c) ∧ e = .returned (.tuple #[v, .agg #[.int .i64 (p : Int), .int .i64 c]]) ∧ w'.ownsRow w.heap.size 61 3 v l.length (itsC l) ∧ Below w.heap.size w w'
theorem owns_set {w : World} {base e size n : Nat} {v : Value} {xs : List Value} (h : w.ownsRow base e size v n xs) (b o : Nat) (hb : b < base) (u : Value) : (w.setCell ⟨b, o, none⟩ u).ownsRow base e size v n xs := by
  refine ⟨h.1, ?_⟩
  rcases h.2 with h0 | ⟨g, cap, cur, hv, hg, hh, r⟩
  · exact .inl h0
  · exact .inr ⟨g, cap, cur, hv, hg, by rw [Below.heap_setCell _ _ _ _ (by show g ≠ b; omega)]; exact hh, r⟩
set_option maxRecDepth 100000 in
set_option maxHeartbeats 1600000 in
theorem decode_any (s : ByteArray) (hs : s.size ≤ 140737488355328) (w : World) (hg : Glo w) :
    Calls Tryz.prog 29 #[.string s] w (DecOut s.data.toList w) := by
  have HG := hide hg
  have h0 := hg.lt
  have c1 := fun W => readList_any s hs W
  clear hs hg
  go_enter Tryz.func29, Tryz.ntmps29
  go_wp2_with fail
  refine (c1 _).mono ?_
  rintro e w1 ⟨v, er, rfl, ⟨l, p, c, hdec, hcase⟩, hb1⟩
  have z1 : w.heap.size + 1 ≤ w1.heap.size := by have := hb1.size; simpa using this
  have k0 : w1.cell? ⟨w.heap.size, 0, none⟩ = some (.int .i64 0) := (hb1.cell (p := ⟨w.heap.size, 0, none⟩) (by simp)).trans (by simp)
  have k1 : w1.cell? ⟨w.heap.size, 1, none⟩ = some (.int .i64 0) := (hb1.cell (p := ⟨w.heap.size, 1, none⟩) (by simp)).trans (by simp)
  have f0 : w1.frozen? ⟨w.heap.size, 0, none⟩ = false := (hb1.frozen (p := ⟨w.heap.size, 0, none⟩) (by simp)).trans (by simp)
  have f1 : w1.frozen? ⟨w.heap.size, 1, none⟩ = false := (hb1.frozen (p := ⟨w.heap.size, 1, none⟩) (by simp)).trans (by simp)
  have B1 : Hid (Below w.heap.size w w1) := ((Below.refl _ _).alloc (Nat.le_refl _) _).trans (hb1.mono (by simp))
  have HD := hide hdec
  clear hb1 c1 hdec
  rcases hcase with ⟨rfl, rfl, rfl, hown⟩ | ⟨hc, rfl, rfl, ⟨rfl, rfl⟩ | rfl⟩
  · have HO : Hid (w1.ownsRow (w.heap.size + 1) 61 3 v l.length (itsC l)) := hide (by simpa using hown)
    clear hown
    go_wp2
    refine bodyPost_ret (v := .tuple #[v, .agg #[.int .i64 0, .int .i64 0]]) ?_ rfl ⟨v, l, 0, 0, HD.out, rfl, ?_, ?_⟩
    · simp [results, Tryz.results29, go_sem, k0, k1]
    · exact owns_base (owns_set (owns_set HO.out _ _ (by omega) _) _ _ (by omega) _) (by omega)
    · exact (B1.out.setCell (by simp) _).setCell (by simp) _
  · go_wp2_with fail
    refine (fault_ref c _ (HG.out.below B1.out h0)).mono ?_
    rintro e w2 ⟨rfl, hb2⟩
    have m0 : w2.cell? ⟨w.heap.size, 0, none⟩ = some (.int .i64 0) := (hb2.cell (p := ⟨w.heap.size, 0, none⟩) (by show w.heap.size < _; omega)).trans k0
    have m1 : w2.cell? ⟨w.heap.size, 1, none⟩ = some (.int .i64 0) := (hb2.cell (p := ⟨w.heap.size, 1, none⟩) (by show w.heap.size < _; omega)).trans k1
    have n0 : w2.frozen? ⟨w.heap.size, 0, none⟩ = false := (hb2.frozen (p := ⟨w.heap.size, 0, none⟩) (by show w.heap.size < _; omega)).trans f0
    have n1 : w2.frozen? ⟨w.heap.size, 1, none⟩ = false := (hb2.frozen (p := ⟨w.heap.size, 1, none⟩) (by show w.heap.size < _; omega)).trans f1
    have B2 : Hid (Below w.heap.size w w2) := B1.out.trans (hb2.mono (by omega))
    clear hb2 k0 k1 f0 f1 B1
    go_wp2
    refine bodyPost_ret (v := .tuple #[.slice none 0 0, .agg #[.int .i64 0, .int .i64 c]]) ?_ rfl ⟨_, [], 0, c, HD.out, rfl, World.ownsRow_nil _ _ _ _, ?_⟩
    · simp [results, Tryz.results29, go_sem, m0, m1]
    · exact (B2.out.setCell (by simp) _).setCell (by simp) _
  · go_wp2_with fail
    refine (fault_pl (p : Int) c _ (HG.out.below B1.out h0)).mono ?_
    rintro e w2 ⟨rfl, hb2⟩
    have m0 : w2.cell? ⟨w.heap.size, 0, none⟩ = some (.int .i64 0) := (hb2.cell (p := ⟨w.heap.size, 0, none⟩) (by show w.heap.size < _; omega)).trans k0
    have m1 : w2.cell? ⟨w.heap.size, 1, none⟩ = some (.int .i64 0) := (hb2.cell (p := ⟨w.heap.size, 1, none⟩) (by show w.heap.size < _; omega)).trans k1
    have n0 : w2.frozen? ⟨w.heap.size, 0, none⟩ = false := (hb2.frozen (p := ⟨w.heap.size, 0, none⟩) (by show w.heap.size < _; omega)).trans f0
    have n1 : w2.frozen? ⟨w.heap.size, 1, none⟩ = false := (hb2.frozen (p := ⟨w.heap.size, 1, none⟩) (by show w.heap.size < _; omega)).trans f1
    have B2 : Hid (Below w.heap.size w w2) := B1.out.trans (hb2.mono (by omega))
    clear hb2 k0 k1 f0 f1 B1
    go_wp2
    refine bodyPost_ret (v := .tuple #[.slice none 0 0, .agg #[.int .i64 (p : Int), .int .i64 c]]) ?_ rfl ⟨_, [], p, c, HD.out, rfl, World.ownsRow_nil _ _ _ _, ?_⟩
    · simp [results, Tryz.results29, go_sem, m0, m1]
    · exact (B2.out.setCell (by simp) _).setCell (by simp) _
end Go.Proofs.YtmbgcpmapaedcaaGreatDoor.Wi
namespace Go.Proofs.YtmbgcpmapaedcaaGreatDoor.Wi
open Go.RowKit
/-- a byte slice of the call's own has grown -/
structure App (base : Nat) (w : World) (v : Value) (w' : World) (v' : Value) (n : Nat) (xs : List Value) : Prop where
  own : w'.ownsRow base 5 1 v' n xs
  grow : w.grownBy w' v.ownBlock
  lies : v'.ownBlock = v.ownBlock ∨ ∃ g, v'.ownBlock = some g ∧ w.heap.size ≤ g
theorem App.trans {base : Nat} {w w1 w2 : World} {v v1 v2 : Value} {n1 n2 : Nat} {x1 x2 : List Value} (h : App base w v w1 v1 n1 x1) (k : App base w1 v1 w2 v2 n2 x2) : App base w v w2 v2 n2 x2 where
  own := k.own
  grow := ⟨k.grow.os.trans h.grow.os, k.grow.tape.trans h.grow.tape, k.grow.output.trans h.grow.output, Nat.le_trans h.grow.size k.grow.size, fun i hi hne => by
    have hs := h.grow.size
    refine (k.grow.block i (Nat.lt_of_lt_of_le hi hs) ?_).trans (h.grow.block i hi hne)
    rcases h.lies with e | ⟨g, e, hg⟩
    · rw [e]; exact hne
    · rw [e]; intro he; injection he with he; omega⟩
  lies := by
    have hs := h.grow.size
    rcases k.lies with e | ⟨g, e, hg⟩
    · rcases h.lies with e1 | ⟨g1, e1, hg1⟩
      · exact .inl (e.trans e1)
      · exact .inr ⟨g1, e.trans e1, hg1⟩
    · exact .inr ⟨g, e, by omega⟩
theorem App.pre {base : Nat} {w w1 w2 : World} {v v2 : Value} {n2 : Nat} {x2 : List Value} (hb : Below w.heap.size w w1) (k : App base w1 v w2 v2 n2 x2) : App base w v w2 v2 n2 x2 where
  own := k.own
  grow := ⟨k.grow.os.trans hb.os, k.grow.tape.trans hb.tape, k.grow.output.trans hb.output, Nat.le_trans hb.size k.grow.size, fun i hi hne =>
    (k.grow.block i (Nat.lt_of_lt_of_le hi hb.size) hne).trans (hb.block i hi)⟩
  lies := by
    have hs := hb.size
    rcases k.lies with e | ⟨g, e, hg⟩
    · exact .inl e
    · exact .inr ⟨g, e, by omega⟩
theorem App.of_lies {base : Nat} {w w1 w' : World} {v : Value} {g cap n : Nat} {xs : List Value} (hb : Below w.heap.size w w1) (hown : w'.ownsRow base 5 1 (.slice (some ⟨g, 0, none⟩) n cap) n xs) (hgr : w1.grownBy w' v.ownBlock) (hat : v.ownBlock = some g ∨ g = w1.heap.size) : App base w v w' (.slice (some ⟨g, 0, none⟩) n cap) n xs :=
  App.pre hb ⟨hown, hgr, by
    rcases hat with e | e
    · exact .inl e.symm
    · exact .inr ⟨g, rfl, by omega⟩⟩
theorem App.below {base : Nat} {w0 w w' : World} {v v' : Value} {n : Nat} {xs : List Value} (h : App base w v w' v' n xs) (hb : Below base w0 w) (hB : base ≤ w.heap.size) (hv : ∀ k, v.ownBlock = some k → base ≤ k) : Below base w0 w' := hb.grown h.grow hB hv
theorem App.cell {base : Nat} {w w' : World} {v v' : Value} {n : Nat} {xs : List Value} (h : App base w v w' v' n xs) {a : Addr} (hl : a.block < w.heap.size) (hne : some a.block ≠ v.ownBlock) : w'.cell? a = w.cell? a := h.grow.cell_far a hl hne
set_option maxRecDepth 100000 in
set_option maxHeartbeats 1600000 in
theorem appendPair_any (base : Nat) (v : Value) (k n : Nat) (xs : List Value) (w : World) (hown : w.ownsRow base 5 1 v k xs) (hbase : base ≤ w.heap.size) (hk : k ≤ 1000000000) (hn : n ≤ 65535) :
    Calls Tryz.prog 50 #[v, .int .i64 (n : Int)] w fun e w' => ∃ v', e = .returned v' ∧ App base w v w' v' (k + 2) (xs ++ (two n).map encB) := by
  obtain ⟨i0, hi, hz0, hz1, hz2⟩ := info_parts in5
  have HO := hide hown
  have n1 : (n : Int) ≤ 65535 := by omega
  have n0 : (0 : Int) ≤ (n : Int) := by omega
  have HT : Hid ((two n).map encB = [.int .u8 ((n : Int) / 256), .int .u8 ((n : Int) % 256)]) := by
    show [encB (UInt8.ofNat (n / 256)), encB (UInt8.ofNat (n % 256))] = _
    unfold encB
    rw [byte_of, byte_of, show n / 256 % 256 = n / 256 from by omega, show n % 256 % 256 = n % 256 from by omega]
    simp
  clear hown
  go_enter Tryz.func50, Tryz.ntmps50
  go_wp2_with (at_builtin; go_must (refine wpList_append_lies _ (by rfl) _ _ _ (by rfl) base 5 i0 _ 1 1 Tryz.underlying78 hi hz0 hz1 hz2 rfl (by omega) v k xs (by rfl) (HO.out.alloc _) ⟨w.heap.size, 0, none⟩ 2 2 [.int .u8 ((n : Int) / 256), .int .u8 ((n : Int) % 256)] (by rfl) (by rfl) (World.news_of_block (cs := #[.int .u8 ((n : Int) / 256), .int .u8 ((n : Int) % 256)]) (t := 5) (fr := (0, 0)) (heap_alloc_new w _)) (by simp [Value.oneCell']) (by omega) (by unfold maxLen; omega) (by omega) (by simp; omega) (w.heap.size + 1) (by simp) ?_; intro gg cap' w3 hown3 hgrow hat3 hlt3))
  go_ret
  refine ⟨_, rfl, App.of_lies ((Below.refl _ _).alloc (Nat.le_refl _) _) ?_ hgrow (by simpa using hat3)⟩
  rw [HT.out]; exact hown3
end Go.Proofs.YtmbgcpmapaedcaaGreatDoor.Wi
namespace Go.Proofs.YtmbgcpmapaedcaaGreatDoor.Wi
open Go.RowKit
theorem enc_byte (n : Nat) : encB (UInt8.ofNat n) = .int .u8 ((n % 256 : Nat) : Int) := by unfold encB; rw [byte_of]
theorem numB_take (x k : Nat) (h : k < 8) : ((numB x).take (k + 1)).map encB = ((numB x).take k).map encB ++ [.int .u8 ((x : Int) / 2 ^ (56 - 8 * k) % 256)] := by
  have e : ((x : Int) / 2 ^ (56 - 8 * k) % 256) = ((x / 2 ^ (56 - 8 * k) % 256 : Nat) : Int) := by simp
  rw [e, List.take_succ_eq_append_getElem (by rw [numB_length]; exact h), List.map_append]
  congr 1
  show [encB _] = _
  rw [← enc_byte]
  match k, h with
  | 0, _ => rfl
  | 1, _ => rfl
  | 2, _ => rfl
  | 3, _ => rfl
  | 4, _ => rfl
  | 5, _ => rfl
  | 6, _ => rfl
  | 7, _ => show [encB (UInt8.ofNat x)] = [encB (UInt8.ofNat (x / 2 ^ 0))]; rw [Nat.pow_zero, Nat.div_one]
set_option maxRecDepth 100000 in
set_option maxHeartbeats 1600000 in
theorem appendNumber_any (base : Nat) (v : Value) (m x : Nat) (xs : List Value) (w : World) (hown : w.ownsRow base 5 1 v m xs) (hbase : base ≤ w.heap.size) (hm : m ≤ 1000000000) (hx : x < 18446744073709551616) :
    Calls Tryz.prog 81 #[v, .int .u64 (x : Int)] w fun e w' => ∃ v', e = .returned v' ∧ App base w v w' v' (m + 8) (xs ++ (numB x).map encB) := by
  obtain ⟨i0, hi, hz0, hz1, hz2⟩ := info_parts in5
  have HO := hide hown
  have HX := hide hx
  clear hown hx
  go_enter Tryz.func81, Tryz.ntmps81
  go_wp2_with fail
  go_loopw [0, 5] (fun b i wr => ∃ (k : Nat) (b' : Value), k ≤ 8 ∧ i = .int .i64 (56 - 8 * (k : Int)) ∧ b' = b ∧ App base w v wr b' (m + k) (xs ++ ((numB x).take k).map encB)) (fun _ i _ => (intOf i + 8).toNat)
  case atStart => exact ⟨0, _, by omega, rfl, rfl, ⟨by simpa using HO.out, ⟨rfl, rfl, rfl, Nat.le_refl _, fun _ _ _ => rfl⟩, .inl rfl⟩⟩
  case round =>
    obtain ⟨k, b, hk, rfl, rfl, happ⟩ := hrel
    by_cases hlt : k < 8
    · have j0 : (0 : Int) ≤ 56 - 8 * (k : Int) := by omega
      have HA := hide happ
      have zr := happ.grow.size
      clear happ
      have HN := hide (numB_take x k hlt)
      have hbo : ∀ r, b.ownBlock = some r → base ≤ r := fun r hr => (HA.out.own.lt r hr).1
      go_wp2_with (at_builtin; go_must (refine wpList_append_lies _ (by rfl) _ _ _ (by rfl) base 5 i0 _ 1 1 Tryz.underlying78 hi hz0 hz1 hz2 rfl (by omega) b (m + k) _ (by rfl) (HA.out.own.alloc _) ⟨wr.heap.size, 0, none⟩ 1 1 [.int .u8 ((x : Int) / 2 ^ (56 - 8 * k) % 256)] (by rfl) (by rfl) (World.news_of_block (cs := #[.int .u8 ((x : Int) / 2 ^ (56 - 8 * k) % 256)]) (t := 5) (fr := (0, 0)) (heap_alloc_new wr _)) (by simp [Value.oneCell']) (by omega) (by unfold maxLen; omega) (by omega) (by simp; omega) (wr.heap.size + 1) (by simp) ?_; intro gg cap' w3 hown3 hgrow hat3 hlt3))
      go_roundw
      case rel =>
        refine ⟨k + 1, _, by omega, by go_num, rfl, ?_⟩
        have h := App.of_lies (w := wr) ((Below.refl _ _).alloc (Nat.le_refl _) _) hown3 hgrow (by simpa using hat3)
        rw [HN.out]
        have h2 := HA.out.trans h
        rw [List.append_assoc] at h2
        exact h2
      case measure => simp only [intOf]; omega
    · obtain rfl : k = 8 := by omega
      have HA := hide happ
      clear happ
      go_wp2
      go_ret
      exact ⟨_, rfl, HA.out⟩
end Go.Proofs.YtmbgcpmapaedcaaGreatDoor.Wi
