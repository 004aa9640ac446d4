/- The contracts of the laws' kind, wrapped, and of the closures of NumRings and NumCompares. -/
import Derived.Test.YtffeigdgleohlaaDoorNumP
import Derived.Test.YtffeigdgleohlaaDoorResW
namespace Go.Proofs.YtffeigdgleohlaaDoor
open Go.RowKit
/-- a whole type, by a number -/
def kindN (n : Int) : Int := 2 + n % 18446744073709551616 % 2
theorem kind_whole (n : Int) : kindN n = 2 ∨ kindN n = 3 := by unfold kindN; omega
theorem kind_eq (n : Int) : wrap64 (2 + wrap64 ((IntKind.u64.wrap n).tmod 2)) = kindN n := by
  have e : IntKind.u64.wrap n = n % 18446744073709551616 := by simp [IntKind.wrap, IntKind.bits, IntKind.signed]
  have h := Int.emod_nonneg n (show (18446744073709551616 : Int) ≠ 0 by decide)
  unfold kindN
  rw [e, Int.tmod_eq_emod_of_nonneg h, w64 (n := n % 18446744073709551616 % 2) (by omega) (by omega), w64 (by omega) (by omega)]
set_option maxRecDepth 100000 in
theorem kind_any (n : Int) (w : World) : Calls Tryd.prog 23 #[.int .i64 n] w fun e w' => e = .returned (.int .i64 (kindN n)) ∧ w' = w := by
  go_enter Tryd.func23, Tryd.ntmps23
  go_wp2
  go_ret
  exact ⟨ret_int (kind_eq n), rfl⟩
set_option maxRecDepth 100000 in
theorem wrapL_any (t n : Int) (w : World) : Calls Tryd.prog 24 #[.int .i64 t, .int .i64 n] w fun e w' => e = .returned (.int .i64 (wrapN t n).1) ∧ w' = w := by
  have c := wrap_any t n
  generalize wrapN t n = v at *
  obtain ⟨x, y⟩ := v
  go_enter Tryd.func24, Tryd.ntmps24
  go_wp2_with fail
  refine (c _).mono ?_
  rintro e w1 ⟨rfl, rfl⟩
  go_wp2
  go_ret
  exact ⟨rfl, rfl⟩
theorem quiet_wrapL (t n : Int) (w : World) (m : Nat) : Calls Tryd.prog 24 #[.int .i64 t, .int .i64 n] (w.drewN m) fun e w'' => e = .returned (.int .i64 (wrapN t n).1) ∧ ∃ q, w'' = w.drewN q :=
  (wrapL_any t n (w.drewN m)).mono fun _ _ ⟨h1, h2⟩ => ⟨h1, m, h2⟩
theorem wrapN_ty {t : Int} (h : tyB t = true) (n : Int) : wrapN t n = (wrN t n, 0) := by unfold wrapN; rw [if_neg (by rw [h]; decide)]
set_option maxRecDepth 100000 in
theorem ring_any (op t a b r : Int) (g : Nat) (w : World) (hg : Glo w) (ht : w.cell? ⟨g, 0, none⟩ = some (.int .i64 t)) (hr : twoN op t a b = (r, 0)) :
    Calls Tryd.prog 25 #[.int .i64 op, .int .i64 a, .int .i64 b, .pointer (some ⟨g, 0, none⟩)] w fun e w' => e = .returned (.int .i64 r) ∧ Below w.heap.size w w' := by
  have c := two_any op t a b w hg
  rw [hr] at c
  clear hr hg
  go_enter Tryd.func25, Tryd.ntmps25
  go_wp2_with fail
  refine c.mono ?_
  rintro e w1 ⟨rfl, hb1⟩
  have HB := hide hb1
  clear hb1 c ht
  go_wp2
  go_ret
  exact ⟨rfl, HB.out⟩
set_option maxRecDepth 100000 in
theorem is_any (op t a b : Int) (f : Bool) (g h i : Nat) (w : World) (hg : Glo w) (ht : w.cell? ⟨g, 0, none⟩ = some (.int .i64 t)) (ha : w.cell? ⟨h, 0, none⟩ = some (.int .i64 a)) (hb : w.cell? ⟨i, 0, none⟩ = some (.int .i64 b)) (hr : twoN op t a b = (flagN f, 0)) :
    Calls Tryd.prog 26 #[.int .i64 op, .pointer (some ⟨g, 0, none⟩), .pointer (some ⟨h, 0, none⟩), .pointer (some ⟨i, 0, none⟩)] w fun e w' => e = .returned (.bool f) ∧ Below w.heap.size w w' := by
  have c := two_any op t a b w hg
  rw [hr] at c
  clear hr hg
  cases f
  all_goals
    have c' : Calls Tryd.prog 9 _ w _ := c
    simp only [flagN] at c'
    go_enter Tryd.func26, Tryd.ntmps26
    go_wp2_with fail
    refine c'.mono ?_
    rintro e w1 ⟨rfl, hb1⟩
    have HB := hide hb1
    clear hb1 c c' ht ha hb
    go_wp2
    go_ret
    exact ⟨rfl, HB.out⟩
end Go.Proofs.YtffeigdgleohlaaDoor
