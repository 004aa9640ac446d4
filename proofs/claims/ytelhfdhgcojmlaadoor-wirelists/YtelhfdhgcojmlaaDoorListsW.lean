/- The walk of the law WireLists. -/
import Derived.Test.YtelhfdhgcojmlaaDoorBackW
import Derived.Test.YtelhfdhgcojmlaaDoorLendW
import Derived.Test.YtelhfdhgcojmlaaDoorBytesW
import Derived.Test.YtelhfdhgcojmlaaDoorRDecW
namespace Go.Proofs.YtelhfdhgcojmlaaDoor
open Go.RowKit
set_option maxRecDepth 100000 in
set_option maxHeartbeats 3200000 in
theorem lists_any (v : Value) (l : List It) (s : ByteArray) (w : World) (hL : Lst w v l) (ho : okL l) (hs : s.size ≤ 140737488355328) (hg : Glo w) :
    Calls Tryd.prog 3 #[v, .string s] w fun e w' => e = .returned (.bool true) ∧ Below w.heap.size w w' := by
  have HG := hide hg
  have h0 := hg.lt
  have HL := hide hL
  have HO := hide ho
  have c0 := lend_any v l w hL ho
  have CE : Hid (∀ W u, Lst W u l → Calls Tryd.prog 8 #[u] W fun e w' => e = .returned (.tuple #[.string ⟨(encL l).toArray⟩, .int .i64 (encE l)]) ∧ Below W.heap.size W w') := fun W u h => encode_any u l W h ho
  have CR : Hid (∀ W u, Lst W u l → Calls Tryd.prog 9 #[u] W fun e w' => e = .returned (.tuple #[.string ⟨(encL l).toArray⟩, .int .i64 (encE l)]) ∧ Below W.heap.size W w') := fun W u h => rencode_any u l W h ho
  have CD := hide (fun W hG => decode_any s hs W hG)
  have CX := hide (fun W => rdecode_any s hs W)
  have CK : Hid (∀ g cap W, Lst W (.slice (some ⟨g, 0, none⟩) l.length cap) l → Lst W v l → l.length + 1 ≤ cap → W.cell? ⟨g, l.length * 3 + 1, none⟩ = some (.int .i64 (-77)) → g < W.heap.size → Calls Tryd.prog 13 #[.slice (some ⟨g, 0, none⟩) l.length cap, v] W fun e w' => e = .returned (.bool true) ∧ Below W.heap.size W w') := fun g cap W a1 a2 a3 a4 a5 => kept_any g cap v l W a1 a2 ho a3 a4 a5
  generalize (⟨(encL l).toArray⟩ : ByteArray) = S at *
  generalize encE l = E at *
  clear hg hL ho hs
  go_enter Tryd.func3, Tryd.ntmps3
  go_wp2_with fail
  refine c0.mono ?_
  rintro e w1 ⟨g, cap, rfl, hcap, hown1, hb1⟩
  obtain ⟨hL1, hm1, hg1⟩ := lent_list hown1
  have B1 := hide hb1
  have L1 := hide hL1
  have M1 := hide hm1
  clear hb1 hown1 c0 hL1 hm1
  go_wp2_with fail
  refine (CE.out _ _ L1.out).mono ?_
  rintro e w2 ⟨rfl, hb2⟩
  have P2 := hide hb2
  have B2 : Hid (Below w.heap.size w w2) := B1.out.trans (hb2.mono B1.out.size)
  clear hb2 CE
  go_wp2_with fail
  refine (CR.out _ _ (HL.out.below B2.out (Nat.le_refl _))).mono ?_
  rintro e w3 ⟨rfl, hb3⟩
  have P3 : Hid (Below w1.heap.size w1 w3) := P2.out.trans (hb3.mono P2.out.size)
  have B3 : Hid (Below w.heap.size w w3) := B2.out.trans (hb3.mono B2.out.size)
  clear hb3 CR P2 B2
  go_wp2_with fail
  refine (CD.out _ (HG.out.below B3.out h0)).mono ?_
  rintro e w4 ⟨v4, l4, p4, k4, hdec, rfl, hown4, hb4⟩
  have P4 : Hid (Below w1.heap.size w1 w4) := P3.out.trans (hb4.mono P3.out.size)
  have B4 : Hid (Below w.heap.size w w4) := B3.out.trans (hb4.mono B3.out.size)
  have L4 : Hid (Lst w4 v4 l4) := Lst.of_owns hown4
  have D4 := hide hdec
  clear hb4 hown4 hdec CD P3 B3
  go_wp2_with fail
  refine (CX.out _).mono ?_
  rintro e w5 ⟨v5, l5, p5, k5, hdec, rfl, hown5, hb5⟩
  rw [D4.out] at hdec
  injection hdec with e1 e2
  injection e2 with e2 e3
  subst e1 e2 e3
  have hq4 : Below w4.heap.size w4 w5 := ((Below.refl _ _).alloc (Nat.le_refl _) _).trans (hb5.mono (by simp))
  have Q4 := hide hq4
  have f0 : w5.cell? ⟨w4.heap.size, 0, none⟩ = some (.int .i64 (p4 : Int)) := (hb5.cell (p := ⟨w4.heap.size, 0, none⟩) (by simp)).trans (by simp)
  have f1 : w5.cell? ⟨w4.heap.size, 1, none⟩ = some (.int .i64 k4) := (hb5.cell (p := ⟨w4.heap.size, 1, none⟩) (by simp)).trans (by simp)
  have z5 : w4.heap.size + 1 ≤ w5.heap.size := by have := hb5.size; simpa using this
  have L5 : Hid (Lst w5 v5 l4) := Lst.of_owns hown5
  have O4 := hide (okL_dec D4.out)
  clear hb5 hown5 hq4 D4 CX
  go_wp2_with fail
  refine (same_any v4 v5 l4 _ ((L4.out.below Q4.out (Nat.le_refl _)).below ((Below.refl _ _).alloc (Nat.le_refl _) _) (Nat.le_refl _)) (L5.out.below ((Below.refl _ _).alloc (Nat.le_refl _) _) (Nat.le_refl _)) O4.out).mono ?_
  rintro e w6 ⟨rfl, hb6⟩
  have hq5 : Below w5.heap.size w5 w6 := ((Below.refl _ _).alloc (Nat.le_refl _) _).trans (hb6.mono (by simp))
  have r0 : w6.cell? ⟨w4.heap.size, 0, none⟩ = some (.int .i64 (p4 : Int)) := (hq5.cell (p := ⟨w4.heap.size, 0, none⟩) (by show w4.heap.size < _; omega)).trans f0
  have r1 : w6.cell? ⟨w4.heap.size, 1, none⟩ = some (.int .i64 k4) := (hq5.cell (p := ⟨w4.heap.size, 1, none⟩) (by show w4.heap.size < _; omega)).trans f1
  have t0 : w6.cell? ⟨w5.heap.size, 0, none⟩ = some (.int .i64 (p4 : Int)) := (hb6.cell (p := ⟨w5.heap.size, 0, none⟩) (by simp)).trans (by simp)
  have t1 : w6.cell? ⟨w5.heap.size, 1, none⟩ = some (.int .i64 k4) := (hb6.cell (p := ⟨w5.heap.size, 1, none⟩) (by simp)).trans (by simp)
  have P6 : Hid (Below w1.heap.size w1 w6) := (P4.out.trans (Q4.out.mono P4.out.size)).trans (hq5.mono (by have := P4.out.size; omega))
  have B6 : Hid (Below w.heap.size w w6) := (B4.out.trans (Q4.out.mono B4.out.size)).trans (hq5.mono (by have := B4.out.size; omega))
  clear hb6 hq5 f0 f1 Q4 L4 L5 O4 P4 B4
  go_wp2_with fail
  refine (CK.out g cap _ (L1.out.below P6.out (Nat.le_refl _)) (HL.out.below B6.out (Nat.le_refl _)) hcap ((P6.out.cell (p := ⟨g, l.length * 3 + 1, none⟩) hg1).trans M1.out) (by have := P6.out.size; omega)).mono ?_
  rintro e w7 ⟨rfl, hb7⟩
  have B7 : Hid (Below w.heap.size w w7) := B6.out.trans (hb7.mono B6.out.size)
  clear hb7 CK P6 B6 r0 r1 t0 t1 L1 M1
  go_wp2_with fail
  refine (works_any _ (HG.out.below B7.out h0)).mono ?_
  rintro e w8 ⟨rfl, hb8⟩
  have B8 : Hid (Below w.heap.size w w8) := B7.out.trans (hb8.mono B7.out.size)
  clear hb8 B7
  go_wp2
  go_ret
  exact ⟨rfl, B8.out⟩
theorem lists_row (v : Value) (l : List It) (s : ByteArray) {w' : World} (hL : Lst w' v l) (ho : okL l) (hs : s.size ≤ 140737488351232) (w : World) (hg : Glo w) (e : w' = w := by rfl) :
    Calls Tryd.prog 3 #[v, .string s] w fun e w' => e = .returned (.bool true) ∧ Below w.heap.size w w' := by
  subst e
  exact lists_any v l s w' hL ho (by omega) hg
end Go.Proofs.YtelhfdhgcojmlaaDoor
