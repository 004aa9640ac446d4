/- The contract of the document's show: the parts that work on no value. | The contract of the document's show: the parts that work on values. -/
import Derived.Test.YtkicbmjjbnblfaaGreatDoorQpW
import Derived.Test.YtkicbmjjbnblfaaGreatDoorQoW
import Derived.Test.YtkicbmjjbnblfaaGreatDoorShA
import Derived.Test.YtkicbmjjbnblfaaGreatDoorTkA
import Derived.Test.YtkicbmjjbnblfaaGreatDoorQmW
namespace Go.Proofs.YtkicbmjjbnblfaaGreatDoor
open Go.RowKit Go.Lib
set_option maxRecDepth 100000 in
set_option maxHeartbeats 3200000 in
theorem qs_var (v : Value) (x : List Pv) (w : World) (hL : PLst w v x) (hlen : x.length ≤ 500) (k : Nat) (n t : Int) (s f : ByteArray) (hy : x[k]? = some ⟨2, n, t, s, f⟩)  (b0 : Bool) : Calls Tryz.prog 19 #[v, .int .i64 (k : Int), .bool b0] w (RowPost w [wdT s]) := by
  obtain ⟨a, b, off, cap, rfl, hA, hI⟩ := hL
  have hk : k < x.length := (List.getElem?_eq_some_iff.1 hy).1
  obtain ⟨hbw, rfl⟩ := hA (by omega)
  obtain ⟨c0, c1, c2, c3, c4⟩ := hI k _ hy
  obtain ⟨N, hN⟩ : ∃ N, N = x.length := ⟨_, rfl⟩
  rw [← hN] at hlen hk ⊢
  have j1 : (k : Int) < (N : Int) := by omega
  have n5 : (N : Int) ≤ 500 := by omega
  simp only [] at c0 c1 c2 c3 c4
  clear hA hI hN hy hlen hk
  have c := fun W => qword_eq s W
  go_enter Tryz.func19, Tryz.ntmps19
  go_wp2_with fail
  refine (c _).mono ?_
  rintro e w1 ⟨rfl, rfl⟩
  go_wp2
  go_ret
  exact Held.row (Held.alloc (Held.alloc (Below.refl _ _) _) _) (by simp) _ rfl rfl (by decide)
set_option maxRecDepth 100000 in
set_option maxHeartbeats 3200000 in
theorem qs_num (v : Value) (x : List Pv) (w : World) (hL : PLst w v x) (hlen : x.length ≤ 500) (k : Nat) (n t : Int) (s f : ByteArray) (hy : x[k]? = some ⟨1, n, t, s, f⟩) (ht : t ≠ 1) (b0 : Bool) : Calls Tryz.prog 19 #[v, .int .i64 (k : Int), .bool b0] w (RowPost w [⟨2, ⟨#[]⟩, n, t, 0⟩]) := by
  obtain ⟨a, b, off, cap, rfl, hA, hI⟩ := hL
  have hk : k < x.length := (List.getElem?_eq_some_iff.1 hy).1
  obtain ⟨hbw, rfl⟩ := hA (by omega)
  obtain ⟨c0, c1, c2, c3, c4⟩ := hI k _ hy
  obtain ⟨N, hN⟩ : ∃ N, N = x.length := ⟨_, rfl⟩
  rw [← hN] at hlen hk ⊢
  have j1 : (k : Int) < (N : Int) := by omega
  have n5 : (N : Int) ≤ 500 := by omega
  simp only [] at c0 c1 c2 c3 c4
  clear hA hI hN hy hlen hk
  have e1 : (t == 1) = false := by rw [beq_eq_false_iff_ne]; exact ht
  go_enter Tryz.func19, Tryz.ntmps19
  go_wp2
  go_ret
  exact Held.row (Held.alloc (Below.refl _ _) _) (by simp) _ rfl rfl (by decide)
set_option maxRecDepth 100000 in
set_option maxHeartbeats 3200000 in
theorem qs_bool0 (v : Value) (x : List Pv) (w : World) (hL : PLst w v x) (hlen : x.length ≤ 500) (k : Nat) (s f : ByteArray) (hy : x[k]? = some ⟨1, 0, 1, s, f⟩)  (b0 : Bool) : Calls Tryz.prog 19 #[v, .int .i64 (k : Int), .bool b0] w (RowPost w [wdT ⟨#[70, 65, 76, 83, 69]⟩]) := by
  obtain ⟨a, b, off, cap, rfl, hA, hI⟩ := hL
  have hk : k < x.length := (List.getElem?_eq_some_iff.1 hy).1
  obtain ⟨hbw, rfl⟩ := hA (by omega)
  obtain ⟨c0, c1, c2, c3, c4⟩ := hI k _ hy
  obtain ⟨N, hN⟩ : ∃ N, N = x.length := ⟨_, rfl⟩
  rw [← hN] at hlen hk ⊢
  have j1 : (k : Int) < (N : Int) := by omega
  have n5 : (N : Int) ≤ 500 := by omega
  simp only [] at c0 c1 c2 c3 c4
  clear hA hI hN hy hlen hk
  have c := fun W => qword_eq ⟨#[70, 65, 76, 83, 69]⟩ W
  go_enter Tryz.func19, Tryz.ntmps19
  go_wp2_with fail
  refine (c _).mono ?_
  rintro e w1 ⟨rfl, rfl⟩
  go_wp2
  go_ret
  exact Held.row (Held.alloc (Held.alloc (Held.alloc (Below.refl _ _) _) _) _) (by simp) _ rfl rfl (by decide)
set_option maxRecDepth 100000 in
set_option maxHeartbeats 3200000 in
theorem qs_bool1 (v : Value) (x : List Pv) (w : World) (hL : PLst w v x) (hlen : x.length ≤ 500) (k : Nat) (s f : ByteArray) (hy : x[k]? = some ⟨1, 1, 1, s, f⟩)  (b0 : Bool) : Calls Tryz.prog 19 #[v, .int .i64 (k : Int), .bool b0] w (RowPost w [wdT ⟨#[84, 82, 85, 69]⟩]) := by
  obtain ⟨a, b, off, cap, rfl, hA, hI⟩ := hL
  have hk : k < x.length := (List.getElem?_eq_some_iff.1 hy).1
  obtain ⟨hbw, rfl⟩ := hA (by omega)
  obtain ⟨c0, c1, c2, c3, c4⟩ := hI k _ hy
  obtain ⟨N, hN⟩ : ∃ N, N = x.length := ⟨_, rfl⟩
  rw [← hN] at hlen hk ⊢
  have j1 : (k : Int) < (N : Int) := by omega
  have n5 : (N : Int) ≤ 500 := by omega
  simp only [] at c0 c1 c2 c3 c4
  clear hA hI hN hy hlen hk
  have c := fun W => qword_eq ⟨#[84, 82, 85, 69]⟩ W
  go_enter Tryz.func19, Tryz.ntmps19
  go_wp2_with fail
  refine (c _).mono ?_
  rintro e w1 ⟨rfl, rfl⟩
  go_wp2
  go_ret
  exact Held.row (Held.alloc (Held.alloc (Held.alloc (Below.refl _ _) _) _) _) (by simp) _ rfl rfl (by decide)
set_option maxRecDepth 100000 in
set_option maxHeartbeats 3200000 in
theorem qs_fld (v : Value) (x : List Pv) (w : World) (hL : PLst w v x) (hlen : x.length ≤ 500) (k : Nat) (n t : Int) (s f : ByteArray) (hy : x[k]? = some ⟨4, n, t, s, f⟩)  (b0 : Bool) : Calls Tryz.prog 19 #[v, .int .i64 (k : Int), .bool b0] w (RowPost w [wdT s, sgT ⟨#[46]⟩, wdT f]) := by
  obtain ⟨a, b, off, cap, rfl, hA, hI⟩ := hL
  have hk : k < x.length := (List.getElem?_eq_some_iff.1 hy).1
  obtain ⟨hbw, rfl⟩ := hA (by omega)
  obtain ⟨c0, c1, c2, c3, c4⟩ := hI k _ hy
  obtain ⟨N, hN⟩ : ∃ N, N = x.length := ⟨_, rfl⟩
  rw [← hN] at hlen hk ⊢
  have j1 : (k : Int) < (N : Int) := by omega
  have n5 : (N : Int) ≤ 500 := by omega
  simp only [] at c0 c1 c2 c3 c4
  clear hA hI hN hy hlen hk
  have hw : ∀ W, Held (w.alloc (.cells (ptC 4 n t s f) 39)) W → Held w W := fun W h => Held.call ((Below.refl w.heap.size w).alloc (Nat.le_refl _) _) h
  have HW := hide hw
  have hh := heap_alloc_new w (.cells (ptC 4 n t s f) 39)
  have HK : Hid (∀ W, Held (w.alloc (.cells (ptC 4 n t s f) 39)) W → W.cell? ⟨w.heap.size, 3, none⟩ = some (.string s)) := fun W h => (h.cell (p := ⟨w.heap.size, 3, none⟩) (by rw [World.size_alloc]; exact Nat.lt_succ_self _)).trans (Lib.cell_of_heap hh 3)
  have HK2 : Hid (∀ W, Held (w.alloc (.cells (ptC 4 n t s f) 39)) W → W.cell? ⟨w.heap.size, 4, none⟩ = some (.string f)) := fun W h => (h.cell (p := ⟨w.heap.size, 4, none⟩) (by rw [World.size_alloc]; exact Nat.lt_succ_self _)).trans (Lib.cell_of_heap hh 4)
  have h0 : Held (w.alloc (.cells (ptC 4 n t s f) 39)) (w.alloc (.cells (ptC 4 n t s f) 39)) := Below.refl _ _
  have CS := hide qmark_any
  have CW := hide fun W => qword_any s W
  have CV := hide fun W => qword_any f W
  clear hw hh
  go_enter Tryz.func19, Tryz.ntmps19
  go_wp2
  clear c0 c1 c2 c3 c4
  unfold ptC at *
  generalize w.alloc (.cells #[.int .i64 4, .int .i64 n, .int .i64 t, .string s, .string f] 39) = X at *
  go_region_held3 (fun W => (W.cell? ⟨w.heap.size, 3, none⟩ = some (.string s) ∧ W.cell? ⟨w.heap.size, 4, none⟩ = some (.string f)) ∧ Held X W) (first | assumption | (focus ((repeat (first | (with_reducible assumption) | ((with_reducible apply and_right'); (with_reducible assumption)) | (with_reducible refine Held.alloc ?_ _) | (with_reducible refine Held.drew ?_) | ((with_reducible apply Held.call'); (focus (with_reducible assumption))))); done)) | (with_reducible refine HK.out _ ?_; (focus ((repeat (first | (with_reducible assumption) | ((with_reducible apply and_right'); (with_reducible assumption)) | (with_reducible refine Held.alloc ?_ _) | (with_reducible refine Held.drew ?_) | ((with_reducible apply Held.call'); (focus (with_reducible assumption))))); done))) | (with_reducible refine HK2.out _ ?_; (focus ((repeat (first | (with_reducible assumption) | ((with_reducible apply and_right'); (with_reducible assumption)) | (with_reducible refine Held.alloc ?_ _) | (with_reducible refine Held.drew ?_) | ((with_reducible apply Held.call'); (focus (with_reducible assumption))))); done))) | (refine ⟨⟨HK.out _ ?_, HK2.out _ ?_⟩, ?_⟩ <;> (focus ((repeat (first | (with_reducible assumption) | ((with_reducible apply and_right'); (with_reducible assumption)) | (with_reducible refine Held.alloc ?_ _) | (with_reducible refine Held.drew ?_) | ((with_reducible apply Held.call'); (focus (with_reducible assumption))))); done)))) (first | (go_at_call 40; refine (CS.out _ _).mono ?_; rintro e w2 ⟨rfl, hb2⟩; unfold tvA) | (go_at_call 39; refine (CW.out _).mono ?_; rintro e w2 ⟨rfl, hb2⟩; unfold tvA) | (go_at_call 39; refine (CV.out _).mono ?_; rintro e w2 ⟨rfl, hb2⟩; unfold tvA))
  all_goals
    clear CS CW CV HK HK2
    go_wp2
    go_ret
    refine Held.row (HW.out _ ?_) ?_ _ ?_ ?_ ?_
    · (focus ((repeat (first | (with_reducible assumption) | ((with_reducible apply and_right'); (with_reducible assumption)) | (with_reducible refine Held.alloc ?_ _) | (with_reducible refine Held.drew ?_) | ((with_reducible apply Held.call'); (focus (with_reducible assumption))))); done))
    · rfl
    · rfl
    · rfl
    · decide
end Go.Proofs.YtkicbmjjbnblfaaGreatDoor
namespace Go.Proofs.YtkicbmjjbnblfaaGreatDoor
open Go.RowKit Go.Lib
theorem lst_lit (W : World) (l : List Tv) (arr : Array Value) {g n : Nat} (hg : W.heap.size = g) (h : arr.toList = tvsC l) (hn : l.length = n) (hm : n ≤ 1000) : Lst (W.alloc (.cells arr 54)) (.slice (some ⟨g, 0, none⟩) n n) l := by
  obtain ⟨v, hv, ho, _⟩ := Held.row (w := W) (W := W) (Below.refl _ _) hg arr h hn hm
  injection hv with hv
  rw [hv]
  exact Lst.of_owns ho
theorem own_lit5 {w W : World} (h : Held w W) (l : List Tv) (arr : Array Value) {g n : Nat} (hg : W.heap.size = g) (ha : arr.toList = tvsC l) (hn : l.length = n) (hm : n ≤ 1000) : (W.alloc (.cells arr 54)).ownsRow w.heap.size 54 5 (.slice (some ⟨g, 0, none⟩) n n) n (tvsC l) := by
  obtain ⟨v, hv, ho, _⟩ := Held.row (w := w) (W := W) h hg arr ha hn hm
  injection hv with hv
  rw [hv]
  rw [hn] at ho
  exact ho
theorem own_final {W : World} {B b n : Nat} {v : Value} {xs : List Value} {L : List Tv} (h : W.ownsRow B 54 5 v n xs) (hb : b ≤ B) (hx : xs = tvsC L) : W.ownsRow b 54 5 v L.length (tvsC L) := by
  subst hx
  have e : n = L.length := by have := h.1; rw [tvsC_length] at this; omega
  subst e
  refine ⟨h.1, ?_⟩
  rcases h.2 with q | ⟨g, cap, cur, q1, q2, q3⟩
  · exact .inl q
  · exact .inr ⟨g, cap, cur, q1, Nat.le_trans hb q2, q3⟩
theorem below_four (w : World) (o1 o2 o3 o4 : Obj) : Below w.heap.size w ((((w.alloc o1).alloc o2).alloc o3).alloc o4) := Held.alloc (Held.alloc (Held.alloc (Held.alloc (Below.refl _ _) _) _) _) _
theorem below_five (w : World) (o1 o2 o3 o4 o5 : Obj) : Below w.heap.size w (((((w.alloc o1).alloc o2).alloc o3).alloc o4).alloc o5) := Held.alloc (below_four w o1 o2 o3 o4) _
set_option maxRecDepth 100000 in
set_option maxHeartbeats 3200000 in
theorem qs_idx (v : Value) (x : List Pv) (w : World) (hL : PLst w v x) (hlen : x.length ≤ 500) (k : Nat) (n t : Int) (s f : ByteArray) (hy : x[k]? = some ⟨3, n, t, s, f⟩) (E : List Tv) (hE : E.length ≤ 1500) (C : ∀ W, Below w.heap.size w W → Calls Tryz.prog 19 #[v, .int .i64 ((k : Int) - 1), .bool false] W (RowPost W E)) (b0 : Bool) : Calls Tryz.prog 19 #[v, .int .i64 (k : Int), .bool b0] w (RowPost w ([wdT s, sgT ⟨#[91]⟩] ++ E ++ [sgT ⟨#[93]⟩])) := by
  obtain ⟨a, b, off, cap, rfl, hA, hI⟩ := hL
  have hk : k < x.length := (List.getElem?_eq_some_iff.1 hy).1
  obtain ⟨hbw, rfl⟩ := hA (by omega)
  obtain ⟨c0, c1, c2, c3, c4⟩ := hI k _ hy
  obtain ⟨N, hN⟩ : ∃ N, N = x.length := ⟨_, rfl⟩
  have HC := hide C
  rw [← hN] at hlen hk HC ⊢
  have j1 : (k : Int) < (N : Int) := by omega
  have n5 : (N : Int) ≤ 500 := by omega
  simp only [] at c0 c1 c2 c3 c4
  clear hA hI hN hy hlen C
  have c := fun W => qword_eq s W
  have m := fun W => qmark_eq ⟨#[91]⟩ W
  have m2 := fun W => qmark_eq ⟨#[93]⟩ W
  go_enter Tryz.func19, Tryz.ntmps19
  go_wp2_with fail
  refine (c _).mono ?_
  rintro e w1 ⟨rfl, hw1⟩
  subst hw1
  go_wp2_with fail
  refine (m _).mono ?_
  rintro e w2 ⟨rfl, hw2⟩
  subst hw2
  go_wp2_with fail
  clear c m c0 c1 c2 c3 c4
  refine (HC.out _ (below_four w _ _ _ _)).mono ?_
  rintro e w4 ⟨u, rfl, hu, hb4⟩
  have O4 := hide (own_on (own_lit5 (Held.alloc (Held.alloc (Held.alloc (Below.refl _ _) _) _) _) [wdT s, sgT ⟨#[91]⟩] _ (g := w.heap.size + 3) (n := 2) (by simp) rfl rfl (by decide)) hb4)
  have LU := hide (Lst.of_owns hu)
  have B4 := hide (below_then (below_four w _ _ _ _) hb4)
  clear hu hb4 HC
  go_wp2_with (at_builtin; go_must (refine wpList_append_toks (by rfl) _ _ (by rfl) w.heap.size 2 (.slice (some ⟨w.heap.size + 3, 0, none⟩) 2 2) _ (by rfl) O4.out u E (by rfl) LU.out (by omega) B4.out.size ?_; intro v5 w5 hown5 hgrow5; have O5 := hide hown5; have B5 := hide (B4.out.grown hgrow5 B4.out.size (fun r hr => (O4.out.lt r hr).1)); clear hown5 hgrow5))
  clear O4 LU B4
  refine (m2 _).mono ?_
  rintro e w6 ⟨rfl, hw6⟩
  subst hw6
  have z5 := B5.out.size
  go_wp2_with (at_builtin; go_must (refine wpList_append_toks (by rfl) _ _ (by rfl) w.heap.size (2 + E.length) v5 _ (by rfl) ((O5.out.alloc _).alloc _) (.slice (some ⟨w5.heap.size + 1, 0, none⟩) 1 1) [sgT ⟨#[93]⟩] (by rfl) (lst_lit _ _ _ (by simp) rfl rfl (by decide)) (by first | omega | (simp; omega)) (by simp; omega) ?_; intro v8 w8 hown8 hgrow8; have O8 := hide hown8; have B8 := hide (((B5.out.alloc z5 _).alloc (by simp; omega) _).grown hgrow8 (by simp; omega) (fun r hr => (O5.out.lt r hr).1)); clear hown8 hgrow8))
  go_ret
  exact ⟨v8, rfl, own_final O8.out (Nat.le_refl _) (by rw [← tvsC_append, ← tvsC_append]; rfl), B8.out⟩
set_option maxRecDepth 100000 in
set_option maxHeartbeats 3200000 in
theorem qs_to2 (v : Value) (x : List Pv) (w : World) (hL : PLst w v x) (hlen : x.length ≤ 500) (k : Nat) (n : Int) (s f : ByteArray) (hy : x[k]? = some ⟨6, n, 2, s, f⟩) (E : List Tv) (hE : E.length ≤ 1500) (C : ∀ W, Below w.heap.size w W → Calls Tryz.prog 19 #[v, .int .i64 ((k : Int) - 1), .bool false] W (RowPost W E)) (b0 : Bool) : Calls Tryz.prog 19 #[v, .int .i64 (k : Int), .bool b0] w (RowPost w ([wdT ⟨#[84, 79, 95, 73, 78, 84]⟩, sgT ⟨#[40]⟩] ++ E ++ [sgT ⟨#[41]⟩])) := by
  obtain ⟨a, b, off, cap, rfl, hA, hI⟩ := hL
  have hk : k < x.length := (List.getElem?_eq_some_iff.1 hy).1
  obtain ⟨hbw, rfl⟩ := hA (by omega)
  obtain ⟨c0, c1, c2, c3, c4⟩ := hI k _ hy
  obtain ⟨N, hN⟩ : ∃ N, N = x.length := ⟨_, rfl⟩
  have HC := hide C
  rw [← hN] at hlen hk HC ⊢
  have j1 : (k : Int) < (N : Int) := by omega
  have n5 : (N : Int) ≤ 500 := by omega
  simp only [] at c0 c1 c2 c3 c4
  clear hA hI hN hy hlen C
  have c := fun W => qword_eq ⟨#[84, 79, 95, 73, 78, 84]⟩ W
  have m := fun W => qmark_eq ⟨#[40]⟩ W
  have m2 := fun W => qmark_eq ⟨#[41]⟩ W
  go_enter Tryz.func19, Tryz.ntmps19
  go_wp2_with fail
  refine (c _).mono ?_
  rintro e w1 ⟨rfl, hw1⟩
  subst hw1
  go_wp2_with fail
  refine (m _).mono ?_
  rintro e w2 ⟨rfl, hw2⟩
  subst hw2
  go_wp2_with fail
  clear c m c0 c1 c2 c3 c4
  refine (HC.out _ (below_five w _ _ _ _ _)).mono ?_
  rintro e w4 ⟨u, rfl, hu, hb4⟩
  have O4 := hide (own_on (own_lit5 (Held.alloc (Held.alloc (Held.alloc (Held.alloc (Below.refl _ _) _) _) _) _) [wdT ⟨#[84, 79, 95, 73, 78, 84]⟩, sgT ⟨#[40]⟩] _ (g := w.heap.size + 4) (n := 2) (by simp) rfl rfl (by decide)) hb4)
  have LU := hide (Lst.of_owns hu)
  have B4 := hide (below_then (below_five w _ _ _ _ _) hb4)
  clear hu hb4 HC
  go_wp2_with (at_builtin; go_must (refine wpList_append_toks (by rfl) _ _ (by rfl) w.heap.size 2 (.slice (some ⟨w.heap.size + 4, 0, none⟩) 2 2) _ (by rfl) O4.out u E (by rfl) LU.out (by omega) B4.out.size ?_; intro v5 w5 hown5 hgrow5; have O5 := hide hown5; have B5 := hide (B4.out.grown hgrow5 B4.out.size (fun r hr => (O4.out.lt r hr).1)); clear hown5 hgrow5))
  clear O4 LU B4
  refine (m2 _).mono ?_
  rintro e w6 ⟨rfl, hw6⟩
  subst hw6
  have z5 := B5.out.size
  go_wp2_with (at_builtin; go_must (refine wpList_append_toks (by rfl) _ _ (by rfl) w.heap.size (2 + E.length) v5 _ (by rfl) ((O5.out.alloc _).alloc _) (.slice (some ⟨w5.heap.size + 1, 0, none⟩) 1 1) [sgT ⟨#[41]⟩] (by rfl) (lst_lit _ _ _ (by simp) rfl rfl (by decide)) (by first | omega | (simp; omega)) (by simp; omega) ?_; intro v8 w8 hown8 hgrow8; have O8 := hide hown8; have B8 := hide (((B5.out.alloc z5 _).alloc (by simp; omega) _).grown hgrow8 (by simp; omega) (fun r hr => (O5.out.lt r hr).1)); clear hown8 hgrow8))
  go_ret
  exact ⟨v8, rfl, own_final O8.out (Nat.le_refl _) (by rw [← tvsC_append, ← tvsC_append]; rfl), B8.out⟩
set_option maxRecDepth 100000 in
set_option maxHeartbeats 3200000 in
theorem qs_to3 (v : Value) (x : List Pv) (w : World) (hL : PLst w v x) (hlen : x.length ≤ 500) (k : Nat) (n : Int) (s f : ByteArray) (hy : x[k]? = some ⟨6, n, 3, s, f⟩) (E : List Tv) (hE : E.length ≤ 1500) (C : ∀ W, Below w.heap.size w W → Calls Tryz.prog 19 #[v, .int .i64 ((k : Int) - 1), .bool false] W (RowPost W E)) (b0 : Bool) : Calls Tryz.prog 19 #[v, .int .i64 (k : Int), .bool b0] w (RowPost w ([wdT ⟨#[84, 79, 95, 68, 73, 78, 84]⟩, sgT ⟨#[40]⟩] ++ E ++ [sgT ⟨#[41]⟩])) := by
  obtain ⟨a, b, off, cap, rfl, hA, hI⟩ := hL
  have hk : k < x.length := (List.getElem?_eq_some_iff.1 hy).1
  obtain ⟨hbw, rfl⟩ := hA (by omega)
  obtain ⟨c0, c1, c2, c3, c4⟩ := hI k _ hy
  obtain ⟨N, hN⟩ : ∃ N, N = x.length := ⟨_, rfl⟩
  have HC := hide C
  rw [← hN] at hlen hk HC ⊢
  have j1 : (k : Int) < (N : Int) := by omega
  have n5 : (N : Int) ≤ 500 := by omega
  simp only [] at c0 c1 c2 c3 c4
  clear hA hI hN hy hlen C
  have c := fun W => qword_eq ⟨#[84, 79, 95, 68, 73, 78, 84]⟩ W
  have m := fun W => qmark_eq ⟨#[40]⟩ W
  have m2 := fun W => qmark_eq ⟨#[41]⟩ W
  go_enter Tryz.func19, Tryz.ntmps19
  go_wp2_with fail
  refine (c _).mono ?_
  rintro e w1 ⟨rfl, hw1⟩
  subst hw1
  go_wp2_with fail
  refine (m _).mono ?_
  rintro e w2 ⟨rfl, hw2⟩
  subst hw2
  go_wp2_with fail
  clear c m c0 c1 c2 c3 c4
  refine (HC.out _ (below_five w _ _ _ _ _)).mono ?_
  rintro e w4 ⟨u, rfl, hu, hb4⟩
  have O4 := hide (own_on (own_lit5 (Held.alloc (Held.alloc (Held.alloc (Held.alloc (Below.refl _ _) _) _) _) _) [wdT ⟨#[84, 79, 95, 68, 73, 78, 84]⟩, sgT ⟨#[40]⟩] _ (g := w.heap.size + 4) (n := 2) (by simp) rfl rfl (by decide)) hb4)
  have LU := hide (Lst.of_owns hu)
  have B4 := hide (below_then (below_five w _ _ _ _ _) hb4)
  clear hu hb4 HC
  go_wp2_with (at_builtin; go_must (refine wpList_append_toks (by rfl) _ _ (by rfl) w.heap.size 2 (.slice (some ⟨w.heap.size + 4, 0, none⟩) 2 2) _ (by rfl) O4.out u E (by rfl) LU.out (by omega) B4.out.size ?_; intro v5 w5 hown5 hgrow5; have O5 := hide hown5; have B5 := hide (B4.out.grown hgrow5 B4.out.size (fun r hr => (O4.out.lt r hr).1)); clear hown5 hgrow5))
  clear O4 LU B4
  refine (m2 _).mono ?_
  rintro e w6 ⟨rfl, hw6⟩
  subst hw6
  have z5 := B5.out.size
  go_wp2_with (at_builtin; go_must (refine wpList_append_toks (by rfl) _ _ (by rfl) w.heap.size (2 + E.length) v5 _ (by rfl) ((O5.out.alloc _).alloc _) (.slice (some ⟨w5.heap.size + 1, 0, none⟩) 1 1) [sgT ⟨#[41]⟩] (by rfl) (lst_lit _ _ _ (by simp) rfl rfl (by decide)) (by first | omega | (simp; omega)) (by simp; omega) ?_; intro v8 w8 hown8 hgrow8; have O8 := hide hown8; have B8 := hide (((B5.out.alloc z5 _).alloc (by simp; omega) _).grown hgrow8 (by simp; omega) (fun r hr => (O5.out.lt r hr).1)); clear hown8 hgrow8))
  go_ret
  exact ⟨v8, rfl, own_final O8.out (Nat.le_refl _) (by rw [← tvsC_append, ← tvsC_append]; rfl), B8.out⟩
set_option maxRecDepth 100000 in
set_option maxHeartbeats 3200000 in
theorem qs_to4 (v : Value) (x : List Pv) (w : World) (hL : PLst w v x) (hlen : x.length ≤ 500) (k : Nat) (n : Int) (s f : ByteArray) (hy : x[k]? = some ⟨6, n, 4, s, f⟩) (E : List Tv) (hE : E.length ≤ 1500) (C : ∀ W, Below w.heap.size w W → Calls Tryz.prog 19 #[v, .int .i64 ((k : Int) - 1), .bool false] W (RowPost W E)) (b0 : Bool) : Calls Tryz.prog 19 #[v, .int .i64 (k : Int), .bool b0] w (RowPost w ([wdT ⟨#[84, 79, 95, 84, 73, 77, 69]⟩, sgT ⟨#[40]⟩] ++ E ++ [sgT ⟨#[41]⟩])) := by
  obtain ⟨a, b, off, cap, rfl, hA, hI⟩ := hL
  have hk : k < x.length := (List.getElem?_eq_some_iff.1 hy).1
  obtain ⟨hbw, rfl⟩ := hA (by omega)
  obtain ⟨c0, c1, c2, c3, c4⟩ := hI k _ hy
  obtain ⟨N, hN⟩ : ∃ N, N = x.length := ⟨_, rfl⟩
  have HC := hide C
  rw [← hN] at hlen hk HC ⊢
  have j1 : (k : Int) < (N : Int) := by omega
  have n5 : (N : Int) ≤ 500 := by omega
  simp only [] at c0 c1 c2 c3 c4
  clear hA hI hN hy hlen C
  have c := fun W => qword_eq ⟨#[84, 79, 95, 84, 73, 77, 69]⟩ W
  have m := fun W => qmark_eq ⟨#[40]⟩ W
  have m2 := fun W => qmark_eq ⟨#[41]⟩ W
  go_enter Tryz.func19, Tryz.ntmps19
  go_wp2_with fail
  refine (c _).mono ?_
  rintro e w1 ⟨rfl, hw1⟩
  subst hw1
  go_wp2_with fail
  refine (m _).mono ?_
  rintro e w2 ⟨rfl, hw2⟩
  subst hw2
  go_wp2_with fail
  clear c m c0 c1 c2 c3 c4
  refine (HC.out _ (below_five w _ _ _ _ _)).mono ?_
  rintro e w4 ⟨u, rfl, hu, hb4⟩
  have O4 := hide (own_on (own_lit5 (Held.alloc (Held.alloc (Held.alloc (Held.alloc (Below.refl _ _) _) _) _) _) [wdT ⟨#[84, 79, 95, 84, 73, 77, 69]⟩, sgT ⟨#[40]⟩] _ (g := w.heap.size + 4) (n := 2) (by simp) rfl rfl (by decide)) hb4)
  have LU := hide (Lst.of_owns hu)
  have B4 := hide (below_then (below_five w _ _ _ _ _) hb4)
  clear hu hb4 HC
  go_wp2_with (at_builtin; go_must (refine wpList_append_toks (by rfl) _ _ (by rfl) w.heap.size 2 (.slice (some ⟨w.heap.size + 4, 0, none⟩) 2 2) _ (by rfl) O4.out u E (by rfl) LU.out (by omega) B4.out.size ?_; intro v5 w5 hown5 hgrow5; have O5 := hide hown5; have B5 := hide (B4.out.grown hgrow5 B4.out.size (fun r hr => (O4.out.lt r hr).1)); clear hown5 hgrow5))
  clear O4 LU B4
  refine (m2 _).mono ?_
  rintro e w6 ⟨rfl, hw6⟩
  subst hw6
  have z5 := B5.out.size
  go_wp2_with (at_builtin; go_must (refine wpList_append_toks (by rfl) _ _ (by rfl) w.heap.size (2 + E.length) v5 _ (by rfl) ((O5.out.alloc _).alloc _) (.slice (some ⟨w5.heap.size + 1, 0, none⟩) 1 1) [sgT ⟨#[41]⟩] (by rfl) (lst_lit _ _ _ (by simp) rfl rfl (by decide)) (by first | omega | (simp; omega)) (by simp; omega) ?_; intro v8 w8 hown8 hgrow8; have O8 := hide hown8; have B8 := hide (((B5.out.alloc z5 _).alloc (by simp; omega) _).grown hgrow8 (by simp; omega) (fun r hr => (O5.out.lt r hr).1)); clear hown8 hgrow8))
  go_ret
  exact ⟨v8, rfl, own_final O8.out (Nat.le_refl _) (by rw [← tvsC_append, ← tvsC_append]; rfl), B8.out⟩
end Go.Proofs.YtkicbmjjbnblfaaGreatDoor
