/- ExprStops, as the row hands it its arguments. -/
import Derived.Test.YtkicbmjjbnblfaaDoorFrmP
import Derived.Test.YtkicbmjjbnblfaaDoorSsW
namespace Go.Proofs.YtkicbmjjbnblfaaDoor
open Go.RowKit
theorem okV_size' {l : List Tv} (h : OkV l) (i : Nat) : (tokAt l i).s.size ≤ 140737488355000 := by
  unfold tokAt
  rw [List.getD_eq_getElem?_getD]
  cases hq : l[i]? with
  | none => decide
  | some y =>
    have := (h.2 y (List.mem_of_getElem? hq)).1
    show y.s.size ≤ _
    omega
set_option maxRecDepth 100000 in
set_option maxHeartbeats 1600000 in
theorem stops_err (lv : Value) (l : List Tv) (z : Int) (w : World) (hL : Lst w lv l) (hll : l.length ≤ 3000000000000) (hls : ∀ i, (tokAt l i).s.size ≤ 140737488355000) (hg : Glo w) {k : Nat} {c : Int} (hl : parse (lst l 0) = .error (k, c)) : Calls Tryd.prog 6 #[lv, .int .i64 z] w fun e w' => e = .returned (.bool true) ∧ Below w.heap.size w w' := by
  have c1 := works_ok w hg
  have HG := hide hg
  have HL := hide hL
  have HP := hide hl
  obtain ⟨la, _, _, lcap, hlv, _, _⟩ := hL
  have HLS := hide hls
  have HLL := hide hll
  obtain ⟨NL, hNL⟩ : ∃ NL, NL = l.length := ⟨_, rfl⟩
  rw [← hNL] at hlv hll
  have i2 : (NL : Int) ≤ 3000000000000 := by omega
  subst hlv
  clear hl hls hll hNL hg
  go_enter Tryd.func6, Tryd.ntmps6
  go_wp2_with fail
  refine c1.mono ?_
  rintro e w1 ⟨rfl, hb1⟩
  have B1 := hide hb1
  have c5 := parse_any _ l 0 w1 (Nat.zero_le _) HLL.out HLS.out (HL.out.below hb1 (Nat.le_refl _)) (HG.out.on hb1)
  clear c1 hb1
  go_wp2_with fail
  refine c5.mono ?_
  rintro e w2 ⟨hb2, hp2⟩
  rw [HP.out] at hp2
  have B2 := hide (B1.out.trans (hb2.mono B1.out.size))
  have hc0 : (c == 0) = false := by rw [beq_eq_false_iff_ne]; exact parse_code HP.out
  simp only [] at hp2
  subst hp2
  obtain ⟨AT, hAT⟩ : ∃ AT : Int, AT = ((l.length - k : Nat) : Int) := ⟨_, rfl⟩
  rw [← hAT]
  have BA := hide (B2.out.alloc B2.out.size (.cells #[.int .i64 AT, .int .i64 c] 27))
  clear c5 hb2 hAT B1
  go_wp2
  go_ret
  exact ⟨rfl, BA.out⟩
theorem stops_said (lv : Value) (l : List Tv) (z : Int) {w' : World} (hL : Lst w' lv l) (hlc : ∀ a n cap, lv = .slice a n cap → n ≤ cap) (hol : OkV l) (_hz : (Lit.int .i64 z).wf = true) (w : World) (hg : Glo w) (e : w' = w := by rfl) : Calls Tryd.prog 6 #[lv, .int .i64 z] w fun e w' => e = .returned (.bool true) ∧ Below w.heap.size w w' := by
  subst e
  cases hl : parse (lst l 0) with
  | error q => obtain ⟨k, c⟩ := q; exact stops_err lv l z w' hL (by have := hol.1; omega) (okV_size' hol) hg hl
  | ok q => obtain ⟨ys, r⟩ := q; exact stops_ok lv l z w' hL hlc (by have := hol.1; omega) (okV_size' hol) hg hl
end Go.Proofs.YtkicbmjjbnblfaaDoor
