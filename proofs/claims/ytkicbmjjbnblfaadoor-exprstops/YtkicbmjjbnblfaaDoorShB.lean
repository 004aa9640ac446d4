/- The contract of expr.show: the parts that work on no value. | The contract of expr.show: an array's element and a conversion. | The contract of expr.show: a conversion. | The contract of expr.show: an operation. | The contract of expr.show: an operation on two values. -/
import Derived.Test.YtkicbmjjbnblfaaDoorShA
namespace Go.Proofs.YtkicbmjjbnblfaaDoor
open Go.RowKit Go.Lib
def wdT (s : ByteArray) : Tv := ⟨1, s, 0, 0, 0⟩
def sgT (s : ByteArray) : Tv := ⟨3, s, 0, 0, 0⟩
abbrev ptC (pk pn pt : Int) (pS pF : ByteArray) : Array Value := #[.int .i64 pk, .int .i64 pn, .int .i64 pt, .string pS, .string pF]
/-- a row of one's own that reads as L is answered -/
def RowPost (w : World) (L : List Tv) (e : Ending) (w' : World) : Prop := ∃ v, e = .returned v ∧ w'.ownsRow w.heap.size 44 5 v L.length (tvsC L) ∧ Below w.heap.size w w'
theorem Held.postR {w W W' : World} {ls : List (List Tv)} {e : Ending} (h : Held w W) (hp : ConcatPost W ls e W') : RowPost w ls.flatten e W' := by
  obtain ⟨v, rfl, h1, h2⟩ := hp
  refine ⟨v, rfl, ⟨h1.1, ?_⟩, h.call h2⟩
  rcases h1.2 with q | ⟨g, cap, cur, q1, q2, q3⟩
  · exact .inl q
  · exact .inr ⟨g, cap, cur, q1, Nat.le_trans h.size q2, q3⟩
theorem Held.row {w W : World} {l : List Tv} (h : Held w W) {g n : Nat} (hg : W.heap.size = g) (cs : Array Value) (hc : cs.toList = tvsC l) (hn : l.length = n) (hm : n ≤ 1000) : RowPost w l (.returned (.slice (some ⟨g, 0, none⟩) n n)) (W.alloc (.cells cs 44)) := by
  subst hn; subst hg
  have hs : cs.size = l.length * 5 := by rw [← Array.length_toList, hc, tvsC_length]
  refine ⟨_, rfl, ⟨tvsC_length l, .inr ⟨W.heap.size, l.length, cs, rfl, h.size, heap_alloc_new W _, Nat.le_refl _, by unfold maxLen; omega, hs, ?_⟩⟩, h.alloc _⟩
  rw [hc, ← tvsC_length, List.take_length]
set_option maxRecDepth 100000 in
set_option maxHeartbeats 1600000 in
theorem show_num (pn pt : Int) (pS pF : ByteArray) (V : Value) (w : World) :
    Calls Tryd.prog 26 #[.agg (ptC 1 pn pt pS pF), V] w (RowPost w [numTok pn pt]) := by
  have h0 : Held w (w.alloc (.cells (ptC 1 pn pt pS pF) 46)) := Held.alloc (Below.refl _ _) _
  have c := fun W => numTok_any 1 pn pt pS pF W
  generalize numTok pn pt = x at *
  go_enter Tryd.func26, Tryd.ntmps26
  go_wp2_with fail
  refine (c _).mono ?_
  rintro e w1 ⟨rfl, hb1⟩
  have HF : Hid (RowPost w [x] (.returned (.slice (some ⟨w1.heap.size, 0, none⟩) 1 1)) (w1.alloc (.cells #[.int .i64 x.k, .string x.s, .int .i64 x.n, .int .i64 x.t, .int .i64 x.at_] 44))) := Held.row (h0.call hb1) rfl _ rfl rfl (by decide)
  clear hb1 c h0
  unfold tvA
  go_wp2
  go_ret
  exact HF.out
set_option maxRecDepth 100000 in
set_option maxHeartbeats 1600000 in
theorem show_var (pn pt : Int) (pS pF : ByteArray) (hS : pS.size ≤ 140737488355000) (V : Value) (w : World) :
    Calls Tryd.prog 26 #[.agg (ptC 2 pn pt pS pF), V] w (RowPost w [wdT pS]) := by
  have h0 : Held w (w.alloc (.cells (ptC 2 pn pt pS pF) 46)) := Held.alloc (Below.refl _ _) _
  have c := fun W => wordTok_any pS hS W
  go_enter Tryd.func26, Tryd.ntmps26
  go_wp2_with fail
  refine (c _).mono ?_
  rintro e w1 ⟨rfl, hb1⟩
  have HF : Hid (RowPost w [wdT pS] (.returned (.slice (some ⟨w1.heap.size, 0, none⟩) 1 1)) (w1.alloc (.cells #[.int .i64 1, .string pS, .int .i64 0, .int .i64 0, .int .i64 0] 44))) := Held.row (h0.call hb1) rfl _ rfl rfl (by decide)
  clear hb1 c h0
  unfold tvA
  go_wp2
  go_ret
  exact HF.out
set_option maxRecDepth 100000 in
set_option maxHeartbeats 3200000 in
theorem show_fld (pn pt : Int) (pS pF : ByteArray) (hS : pS.size ≤ 140737488355000) (hF : pF.size ≤ 140737488355000) (V : Value) (w : World) :
    Calls Tryd.prog 26 #[.agg (ptC 4 pn pt pS pF), V] w (RowPost w [wdT pS, sgT ⟨#[46]⟩, wdT pF]) := by
  have hw : ∀ W, Held (w.alloc (.cells (ptC 4 pn pt pS pF) 46)) W → Held w W := fun W h => Held.call ((Below.refl w.heap.size w).alloc (Nat.le_refl _) _) h
  have HW := hide hw
  have hh := heap_alloc_new w (.cells (ptC 4 pn pt pS pF) 46)
  have HK : Hid (∀ W, Held (w.alloc (.cells (ptC 4 pn pt pS pF) 46)) W → W.cell? ⟨w.heap.size, 3, none⟩ = some (.string pS)) := fun W h => (h.cell (p := ⟨w.heap.size, 3, none⟩) (by rw [World.size_alloc]; exact Nat.lt_succ_self _)).trans (Lib.cell_of_heap hh 3)
  have HK2 : Hid (∀ W, Held (w.alloc (.cells (ptC 4 pn pt pS pF) 46)) W → W.cell? ⟨w.heap.size, 4, none⟩ = some (.string pF)) := fun W h => (h.cell (p := ⟨w.heap.size, 4, none⟩) (by rw [World.size_alloc]; exact Nat.lt_succ_self _)).trans (Lib.cell_of_heap hh 4)
  have h0 : Held (w.alloc (.cells (ptC 4 pn pt pS pF) 46)) (w.alloc (.cells (ptC 4 pn pt pS pF) 46)) := Below.refl _ _
  have CS := hide signTok_any
  have CW := hide fun W => wordTok_any pS hS W
  have CV := hide fun W => wordTok_any pF hF W
  clear hS hF hw hh
  go_enter Tryd.func26, Tryd.ntmps26
  go_wp2
  unfold ptC at *
  generalize w.alloc (.cells #[.int .i64 4, .int .i64 pn, .int .i64 pt, .string pS, .string pF] 46) = X at *
  go_region_held3 (fun W => (W.cell? ⟨w.heap.size, 3, none⟩ = some (.string pS) ∧ W.cell? ⟨w.heap.size, 4, none⟩ = some (.string pF)) ∧ Held X W) (first | assumption | (focus ((repeat (first | (with_reducible assumption) | ((with_reducible apply and_right'); (with_reducible assumption)) | (with_reducible refine Held.alloc ?_ _) | (with_reducible refine Held.drew ?_) | ((with_reducible apply Held.call'); (focus (with_reducible assumption))))); done)) | (with_reducible refine HK.out _ ?_; (focus ((repeat (first | (with_reducible assumption) | ((with_reducible apply and_right'); (with_reducible assumption)) | (with_reducible refine Held.alloc ?_ _) | (with_reducible refine Held.drew ?_) | ((with_reducible apply Held.call'); (focus (with_reducible assumption))))); done))) | (with_reducible refine HK2.out _ ?_; (focus ((repeat (first | (with_reducible assumption) | ((with_reducible apply and_right'); (with_reducible assumption)) | (with_reducible refine Held.alloc ?_ _) | (with_reducible refine Held.drew ?_) | ((with_reducible apply Held.call'); (focus (with_reducible assumption))))); done))) | (refine ⟨⟨HK.out _ ?_, HK2.out _ ?_⟩, ?_⟩ <;> (focus ((repeat (first | (with_reducible assumption) | ((with_reducible apply and_right'); (with_reducible assumption)) | (with_reducible refine Held.alloc ?_ _) | (with_reducible refine Held.drew ?_) | ((with_reducible apply Held.call'); (focus (with_reducible assumption))))); done)))) (first | (go_at_call 45; refine (CS.out _ _).mono ?_; rintro e w2 ⟨rfl, hb2⟩; unfold tvA) | (go_at_call 43; refine (CW.out _).mono ?_; rintro e w2 ⟨rfl, hb2⟩; unfold tvA) | (go_at_call 43; refine (CV.out _).mono ?_; rintro e w2 ⟨rfl, hb2⟩; unfold tvA))
  all_goals
    clear CS CW CV HK HK2
    go_wp2
    go_ret
    refine Held.row (HW.out _ ?_) ?_ _ ?_ ?_ ?_
    · (focus ((repeat (first | (with_reducible assumption) | ((with_reducible apply and_right'); (with_reducible assumption)) | (with_reducible refine Held.alloc ?_ _) | (with_reducible refine Held.drew ?_) | ((with_reducible apply Held.call'); (focus (with_reducible assumption))))); done))
    · rfl
    · rfl
    · rfl
    · decide
end Go.Proofs.YtkicbmjjbnblfaaDoor
namespace Go.Proofs.YtkicbmjjbnblfaaDoor
open Go.RowKit Go.Lib
/-- the one value that a part works on -/
structure OneV (w : World) (V u : Value) (l : List Tv) (op : Bool) (vb vo vc : Nat) : Prop where
  val : V = .slice (some ⟨vb, vo, none⟩) 1 vc
  cap : 1 ≤ vc
  lt : vb < w.heap.size
  c0 : w.cell? ⟨vb, vo, none⟩ = some u
  c1 : w.cell? ⟨vb, vo + 1, none⟩ = some (.bool op)
  lst : Lst w u l
set_option maxRecDepth 100000 in
set_option maxHeartbeats 3200000 in
theorem show_idx (pn pt : Int) (pS pF : ByteArray) (hS : pS.size ≤ 140737488355000) (V u : Value) (l : List Tv) (op : Bool) (vb vo vc : Nat) (w : World) (hV : OneV w V u l op vb vo vc) (hl : l.length ≤ 100000000) :
    Calls Tryd.prog 26 #[.agg (ptC 3 pn pt pS pF), V] w (RowPost w ([wdT pS, sgT ⟨#[91]⟩] ++ (l ++ [sgT ⟨#[93]⟩]))) := by
  have hw : ∀ W, Held (w.alloc (.cells (ptC 3 pn pt pS pF) 46)) W → Held w W := fun W h => Held.call ((Below.refl w.heap.size w).alloc (Nat.le_refl _) _) h
  have HW := hide hw
  have hh := heap_alloc_new w (.cells (ptC 3 pn pt pS pF) 46)
  have HK : Hid (∀ W, Held (w.alloc (.cells (ptC 3 pn pt pS pF) 46)) W → W.cell? ⟨w.heap.size, 3, none⟩ = some (.string pS)) := fun W h => (h.cell (p := ⟨w.heap.size, 3, none⟩) (by rw [World.size_alloc]; exact Nat.lt_succ_self _)).trans (Lib.cell_of_heap hh 3)
  have HK2 : Hid (∀ W, Held (w.alloc (.cells (ptC 3 pn pt pS pF) 46)) W → W.cell? ⟨vb, vo, none⟩ = some u) := fun W h => ((hw W h).cell (p := ⟨vb, vo, none⟩) hV.lt).trans hV.c0
  have HL : Hid (∀ W, Held (w.alloc (.cells (ptC 3 pn pt pS pF) 46)) W → Lst W u l) := fun W h => hV.lst.call (hw W h)
  have h0 : Held (w.alloc (.cells (ptC 3 pn pt pS pF) 46)) (w.alloc (.cells (ptC 3 pn pt pS pF) 46)) := Below.refl _ _
  have CS := hide signTok_any
  have CW := hide fun W => wordTok_any pS hS W
  obtain ⟨L, hLL⟩ : ∃ L, L = [wdT pS, sgT ⟨#[91]⟩] ++ (l ++ [sgT ⟨#[93]⟩]) := ⟨_, rfl⟩
  have HG : Hid (∀ W V, LLst W V [[wdT pS, sgT ⟨#[91]⟩], l, [sgT ⟨#[93]⟩]] → Held (w.alloc (.cells (ptC 3 pn pt pS pF) 46)) W → Calls Tryd.prog 44 #[V] W (fun e W' => (∃ v, e = .returned v ∧ Hid (RowPost w L (.returned v) W')) ∧ Below W.heap.size W W')) := fun W V h1 h2 => by
    refine (concat_any _ V W h1 (by simp) (by simp; omega)).mono ?_
    intro e W' hp
    have hq := (hw W h2).postR hp
    obtain ⟨v, rfl, _, hb⟩ := hp
    refine ⟨⟨v, rfl, ?_⟩, hb⟩
    show RowPost w L _ W'
    rw [hLL]
    simpa using hq
  rw [← hLL]
  obtain ⟨rfl, hc1, hvl, _, _, ⟨a, b, off, cap, rfl, _, _⟩⟩ := hV
  generalize l.length = n at *
  clear hS hw hh hLL hl hvl
  go_enter Tryd.func26, Tryd.ntmps26
  go_wp2
  unfold ptC at *
  generalize w.alloc (.cells #[.int .i64 3, .int .i64 pn, .int .i64 pt, .string pS, .string pF] 46) = X at *
  go_region_held3 (fun W => (W.cell? ⟨w.heap.size, 3, none⟩ = some (.string pS) ∧ W.cell? ⟨vb, vo, none⟩ = some (.slice a n cap)) ∧ Held X W) (first | assumption | (focus ((repeat (first | (with_reducible assumption) | ((with_reducible apply and_right'); (with_reducible assumption)) | (with_reducible refine Held.alloc ?_ _) | (with_reducible refine Held.drew ?_) | ((with_reducible apply Held.call'); (focus (with_reducible assumption))))); done)) | (with_reducible refine HK.out _ ?_; (focus ((repeat (first | (with_reducible assumption) | ((with_reducible apply and_right'); (with_reducible assumption)) | (with_reducible refine Held.alloc ?_ _) | (with_reducible refine Held.drew ?_) | ((with_reducible apply Held.call'); (focus (with_reducible assumption))))); done))) | (with_reducible refine HK2.out _ ?_; (focus ((repeat (first | (with_reducible assumption) | ((with_reducible apply and_right'); (with_reducible assumption)) | (with_reducible refine Held.alloc ?_ _) | (with_reducible refine Held.drew ?_) | ((with_reducible apply Held.call'); (focus (with_reducible assumption))))); done))) | (refine ⟨⟨HK.out _ ?_, HK2.out _ ?_⟩, ?_⟩ <;> (focus ((repeat (first | (with_reducible assumption) | ((with_reducible apply and_right'); (with_reducible assumption)) | (with_reducible refine Held.alloc ?_ _) | (with_reducible refine Held.drew ?_) | ((with_reducible apply Held.call'); (focus (with_reducible assumption))))); done)))) (first | (go_at_call 45; refine (CS.out _ _).mono ?_; rintro e w2 ⟨rfl, hb2⟩; unfold tvA) | (go_at_call 43; refine (CW.out _).mono ?_; rintro e w2 ⟨rfl, hb2⟩; unfold tvA) | (go_at_call 44; refine (HG.out _ _ ?_ ?_).mono ?_; (focus (refine llst3 ?_ ?_ ?_ ?_; (focus (first | rfl | (simp; done))); (focus (focus ((repeat (first | (with_reducible assumption) | (refine tvsC_cells _ ?_ _ ?_ _ ?_ <;> first | rfl | (simp; done)) | (with_reducible refine Lst.alloc ?_ _) | (with_reducible refine Lst.drew ?_) | ((with_reducible apply Lst.call'); (focus (with_reducible assumption))))); done))); (focus (refine HL.out _ ?_; (focus ((repeat (first | (with_reducible assumption) | ((with_reducible apply and_right'); (with_reducible assumption)) | (with_reducible refine Held.alloc ?_ _) | (with_reducible refine Held.drew ?_) | ((with_reducible apply Held.call'); (focus (with_reducible assumption))))); done)))); (focus (focus ((repeat (first | (with_reducible assumption) | (refine tvsC_cells _ ?_ _ ?_ _ ?_ <;> first | rfl | (simp; done)) | (with_reducible refine Lst.alloc ?_ _) | (with_reducible refine Lst.drew ?_) | ((with_reducible apply Lst.call'); (focus (with_reducible assumption))))); done))))); (focus (focus ((repeat (first | (with_reducible assumption) | ((with_reducible apply and_right'); (with_reducible assumption)) | (with_reducible refine Held.alloc ?_ _) | (with_reducible refine Held.drew ?_) | ((with_reducible apply Held.call'); (focus (with_reducible assumption))))); done))); rintro e w9 ⟨⟨v9, rfl, HB9⟩, hb9⟩))
  all_goals
    have HB : Hid (RowPost w L (.returned v9) w9) := by assumption
    clear h0 HG HK HL HK2 CS CW
    go_wp2
    go_ret
    exact HB.out
end Go.Proofs.YtkicbmjjbnblfaaDoor
namespace Go.Proofs.YtkicbmjjbnblfaaDoor
open Go.RowKit Go.Lib
set_option maxRecDepth 100000 in
set_option maxHeartbeats 3200000 in
theorem show_to (pn pt : Int) (pS pF : ByteArray) (cw : ByteArray) (ct : Int) (hcv : cvRes pt = .tuple #[.agg #[.string cw, .int .i64 ct], .bool true]) (hS : cw.size ≤ 140737488355000) (V u : Value) (l : List Tv) (op : Bool) (vb vo vc : Nat) (w : World) (hg : TabAt w 1 cvTab) (hz : 1 < w.heap.size) (hV : OneV w V u l op vb vo vc) (hl : l.length ≤ 100000000) :
    Calls Tryd.prog 26 #[.agg (ptC 6 pn pt pS pF), V] w (RowPost w ([wdT cw, sgT ⟨#[40]⟩] ++ (l ++ [sgT ⟨#[41]⟩]))) := by
  have c1 := cvTo_any pt (w.alloc (.cells (ptC 6 pn pt pS pF) 46)) (hg.alloc hz _) (by rw [World.size_alloc]; omega)
  rw [hcv] at c1
  have hH := hide ((Below.refl w.heap.size w).alloc (Nat.le_refl _) (.cells (ptC 6 pn pt pS pF) 46))
  have HVL := hide hV.lst
  have HVC := hide hV.c0
  have HVT := hide hV.lt
  have HLn := hide hl
  obtain ⟨L, hLL⟩ : ∃ L, L = [wdT cw, sgT ⟨#[40]⟩] ++ (l ++ [sgT ⟨#[41]⟩]) := ⟨_, rfl⟩
  have HLL := hide hLL
  have CS := hide signTok_any
  have CW := hide fun W => wordTok_any cw hS W
  rw [← hLL]
  obtain ⟨rfl, hc1, hvl, _, _, ⟨a, b, off, cap, rfl, _, _⟩⟩ := hV
  obtain ⟨n, hn⟩ : ∃ n, n = l.length := ⟨_, rfl⟩
  rw [← hn] at HVL HVC
  clear hS hLL hl hvl hn hg hcv
  go_enter Tryd.func26, Tryd.ntmps26
  go_wp2_with fail
  refine c1.mono ?_
  rintro e w1 ⟨rfl, hb1⟩
  have hw : ∀ W, Held (w1.alloc (.cells #[.string cw, .int .i64 ct] 88)) W → Held w W := fun W h => Held.call (Held.alloc (Held.call hH.out hb1) _) h
  have HW := hide hw
  have hh := heap_alloc_new w1 (.cells #[.string cw, .int .i64 ct] 88)
  have HK : Hid (∀ W, Held (w1.alloc (.cells #[.string cw, .int .i64 ct] 88)) W → W.cell? ⟨w1.heap.size, 0, none⟩ = some (.string cw)) := fun W h => (h.cell (p := ⟨w1.heap.size, 0, none⟩) (by rw [World.size_alloc]; exact Nat.lt_succ_self _)).trans (Lib.cell_of_heap hh 0)
  have HK2 : Hid (∀ W, Held (w1.alloc (.cells #[.string cw, .int .i64 ct] 88)) W → W.cell? ⟨vb, vo, none⟩ = some (.slice a n cap)) := fun W h => ((hw W h).cell (p := ⟨vb, vo, none⟩) HVT.out).trans HVC.out
  have HL : Hid (∀ W, Held (w1.alloc (.cells #[.string cw, .int .i64 ct] 88)) W → Lst W (.slice a n cap) l) := fun W h => HVL.out.call (hw W h)
  have h0 : Held (w1.alloc (.cells #[.string cw, .int .i64 ct] 88)) (w1.alloc (.cells #[.string cw, .int .i64 ct] 88)) := Below.refl _ _
  have HG : Hid (∀ W V, LLst W V [[wdT cw, sgT ⟨#[40]⟩], l, [sgT ⟨#[41]⟩]] → Held (w1.alloc (.cells #[.string cw, .int .i64 ct] 88)) W → Calls Tryd.prog 44 #[V] W (fun e W' => (∃ v, e = .returned v ∧ Hid (RowPost w L (.returned v) W')) ∧ Below W.heap.size W W')) := fun W V h1 h2 => by
    refine (concat_any _ V W h1 (by simp) (by have := HLn.out; simp; omega)).mono ?_
    intro e W' hp
    have hq := (hw W h2).postR hp
    obtain ⟨v, rfl, _, hb⟩ := hp
    refine ⟨⟨v, rfl, ?_⟩, hb⟩
    show RowPost w L _ W'
    rw [HLL.out]
    simpa using hq
  clear c1 hb1 hw hh HVL HVC HVT HLn HLL hH
  go_wp2
  generalize w1.alloc (.cells #[.string cw, .int .i64 ct] 88) = X at *
  go_region_held3 (fun W => (W.cell? ⟨w1.heap.size, 0, none⟩ = some (.string cw) ∧ W.cell? ⟨vb, vo, none⟩ = some (.slice a n cap)) ∧ Held X W) (first | assumption | (focus ((repeat (first | (with_reducible assumption) | ((with_reducible apply and_right'); (with_reducible assumption)) | (with_reducible refine Held.alloc ?_ _) | (with_reducible refine Held.drew ?_) | ((with_reducible apply Held.call'); (focus (with_reducible assumption))))); done)) | (with_reducible refine HK.out _ ?_; (focus ((repeat (first | (with_reducible assumption) | ((with_reducible apply and_right'); (with_reducible assumption)) | (with_reducible refine Held.alloc ?_ _) | (with_reducible refine Held.drew ?_) | ((with_reducible apply Held.call'); (focus (with_reducible assumption))))); done))) | (with_reducible refine HK2.out _ ?_; (focus ((repeat (first | (with_reducible assumption) | ((with_reducible apply and_right'); (with_reducible assumption)) | (with_reducible refine Held.alloc ?_ _) | (with_reducible refine Held.drew ?_) | ((with_reducible apply Held.call'); (focus (with_reducible assumption))))); done))) | (refine ⟨⟨HK.out _ ?_, HK2.out _ ?_⟩, ?_⟩ <;> (focus ((repeat (first | (with_reducible assumption) | ((with_reducible apply and_right'); (with_reducible assumption)) | (with_reducible refine Held.alloc ?_ _) | (with_reducible refine Held.drew ?_) | ((with_reducible apply Held.call'); (focus (with_reducible assumption))))); done)))) (first | (go_at_call 45; refine (CS.out _ _).mono ?_; rintro e w2 ⟨rfl, hb2⟩; unfold tvA) | (go_at_call 43; refine (CW.out _).mono ?_; rintro e w2 ⟨rfl, hb2⟩; unfold tvA) | (go_at_call 44; refine (HG.out _ _ ?_ ?_).mono ?_; (focus (refine llst3 ?_ ?_ ?_ ?_; (focus (first | rfl | (simp; done))); (focus (focus ((repeat (first | (with_reducible assumption) | (refine tvsC_cells _ ?_ _ ?_ _ ?_ <;> first | rfl | (simp; done)) | (with_reducible refine Lst.alloc ?_ _) | (with_reducible refine Lst.drew ?_) | ((with_reducible apply Lst.call'); (focus (with_reducible assumption))))); done))); (focus (refine HL.out _ ?_; (focus ((repeat (first | (with_reducible assumption) | ((with_reducible apply and_right'); (with_reducible assumption)) | (with_reducible refine Held.alloc ?_ _) | (with_reducible refine Held.drew ?_) | ((with_reducible apply Held.call'); (focus (with_reducible assumption))))); done)))); (focus (focus ((repeat (first | (with_reducible assumption) | (refine tvsC_cells _ ?_ _ ?_ _ ?_ <;> first | rfl | (simp; done)) | (with_reducible refine Lst.alloc ?_ _) | (with_reducible refine Lst.drew ?_) | ((with_reducible apply Lst.call'); (focus (with_reducible assumption))))); done))))); (focus (focus ((repeat (first | (with_reducible assumption) | ((with_reducible apply and_right'); (with_reducible assumption)) | (with_reducible refine Held.alloc ?_ _) | (with_reducible refine Held.drew ?_) | ((with_reducible apply Held.call'); (focus (with_reducible assumption))))); done))); rintro e w9 ⟨⟨v9, rfl, HB9⟩, hb9⟩))
  all_goals
    have HB : Hid (RowPost w L (.returned v9) w9) := by assumption
    clear h0 HG HK HL HK2 CS CW
    go_wp2
    go_ret
    exact HB.out
end Go.Proofs.YtkicbmjjbnblfaaDoor
namespace Go.Proofs.YtkicbmjjbnblfaaDoor
open Go.RowKit Go.Lib
theorem oneV_hl {op : Bool} {l : List Tv} (h : l.length ≤ 10000000) : (innerL op l).length ≤ 10000002 := by
  unfold innerL
  split
  · simp; omega
  · omega
set_option maxRecDepth 100000 in
set_option maxHeartbeats 3200000 in
theorem show_op1 (pn pt : Int) (pS pF : ByteArray) (r0 r1 r3 : Int) (r2 : ByteArray) (hcv : opRes pn = .tuple #[.agg #[.int .i64 r0, .int .i64 r1, .string r2, .int .i64 r3], .bool true]) (V u : Value) (l : List Tv) (op : Bool) (vb vo vc : Nat) (w : World) (hg : TabAt w 0 opTab) (hz : 0 < w.heap.size) (hV : OneV w V u l op vb vo vc) (hl : l.length ≤ 10000000) :
    Calls Tryd.prog 26 #[.agg (ptC 5 pn pt pS pF), V] w (RowPost w ([⟨r1, r2, 0, 0, 0⟩] ++ innerL op l)) := by
  have c1 := opOf_any pn (w.alloc (.cells (ptC 5 pn pt pS pF) 46)) (hg.alloc hz _) (by rw [World.size_alloc]; omega)
  rw [hcv] at c1
  have hH := hide ((Below.refl w.heap.size w).alloc (Nat.le_refl _) (.cells (ptC 5 pn pt pS pF) 46))
  have HVL := hide hV.lst
  have HVC := hide (And.intro hV.c0 hV.c1)
  have HVT := hide hV.lt
  have HLn := hide hl
  obtain ⟨L, hLL⟩ : ∃ L, L = [⟨r1, r2, 0, 0, 0⟩] ++ innerL op l := ⟨_, rfl⟩
  have HLL := hide hLL
  rw [← hLL]
  obtain ⟨rfl, hc1, hvl, _, _, ⟨a, b, off, cap, rfl, _, _⟩⟩ := hV
  obtain ⟨n, hn⟩ : ∃ n, n = l.length := ⟨_, rfl⟩
  rw [← hn] at HVL HVC
  clear hLL hl hvl hn hg hcv
  go_enter Tryd.func26, Tryd.ntmps26
  go_wp2_with fail
  refine c1.mono ?_
  rintro e w1 ⟨rfl, hb1⟩
  obtain ⟨o1, ho1⟩ : ∃ o1, o1 = Obj.cells #[.int .i64 r0, .int .i64 r1, .string r2, .int .i64 r3] 92 := ⟨_, rfl⟩
  obtain ⟨o2, ho2⟩ : ∃ o2, o2 = Obj.cells #[.int .i64 r1, .string r2, .int .i64 0, .int .i64 0, .int .i64 0] 44 := ⟨_, rfl⟩
  have hX : Held w ((w1.alloc o1).alloc o2) := Held.alloc (Held.alloc (Held.call hH.out hb1) _) _
  have HX := hide hX
  have d0 := (hX.cell (p := ⟨vb, vo, none⟩) HVT.out).trans HVC.out.1
  have d1 := (hX.cell (p := ⟨vb, vo + 1, none⟩) HVT.out).trans HVC.out.2
  have c2 := inner_any l (.slice a n cap) op ((w1.alloc o1).alloc o2) (HVL.out.call hX) (by have := HLn.out; omega)
  have hO : Lst ((w1.alloc o1).alloc o2) (.slice (some ⟨w1.heap.size + 1, 0, none⟩) 1 1) [⟨r1, r2, 0, 0, 0⟩] := by rw [ho2]; (focus ((repeat (first | (with_reducible assumption) | (refine tvsC_cells _ ?_ _ ?_ _ ?_ <;> first | rfl | (simp; done)) | (with_reducible refine Lst.alloc ?_ _) | (with_reducible refine Lst.drew ?_) | ((with_reducible apply Lst.call'); (focus (with_reducible assumption))))); done))
  have HO := hide hO
  rw [ho1, ho2] at d0 d1 c2
  clear c1 hb1 HVL HVC HVT hH hX hO
  go_wp2_with fail
  refine c2.mono ?_
  rintro e w3 ⟨v3, rfl, hl3, hb3⟩
  have c3 : Hid (∀ V, LLst (w3.alloc (.cells #[.slice (some ⟨w1.heap.size + 1, 0, none⟩) 1 1, v3] 22)) V [[⟨r1, r2, 0, 0, 0⟩], innerL op l] → Calls Tryd.prog 44 #[V] (w3.alloc (.cells #[.slice (some ⟨w1.heap.size + 1, 0, none⟩) 1 1, v3] 22)) (RowPost w L)) := fun V h1 => by
    refine (concat_any _ V _ h1 (by simp) (by have := oneV_hl (op := op) HLn.out; simp; omega)).mono ?_
    intro e W' hp
    have hX2 := HX.out
    rw [ho1, ho2] at hX2
    have hq := ((hX2.call hb3).alloc _).postR hp
    rw [HLL.out]
    simpa using hq
  have hO2 := HO.out
  rw [ho1, ho2] at hO2
  have c4 := c3.out _ (llst2 rfl (hO2.call hb3) hl3)
  obtain ⟨a3, b3, off3, cap3, rfl, _, _⟩ := hl3
  generalize (innerL op l).length = n3 at *
  clear c2 c3 hO2 hb3 HX HO HLL HLn d0 d1 ho1 ho2
  go_wp2_with fail
  refine c4.mono ?_
  rintro e w4 ⟨v4, rfl, hf⟩
  have HF : Hid (RowPost w L (.returned v4) w4) := ⟨v4, rfl, hf⟩
  clear c4 hf
  go_wp2
  go_ret
  exact HF.out
end Go.Proofs.YtkicbmjjbnblfaaDoor
namespace Go.Proofs.YtkicbmjjbnblfaaDoor
open Go.RowKit Go.Lib
/-- the two values that a part works on -/
structure TwoV (w : World) (V u u' : Value) (l l' : List Tv) (op op' : Bool) (vb vo vc : Nat) : Prop where
  val : V = .slice (some ⟨vb, vo, none⟩) 2 vc
  cap : 2 ≤ vc
  lt : vb < w.heap.size
  c0 : w.cell? ⟨vb, vo, none⟩ = some u
  c1 : w.cell? ⟨vb, vo + 1, none⟩ = some (.bool op)
  c2 : w.cell? ⟨vb, vo + 2, none⟩ = some u'
  c3 : w.cell? ⟨vb, vo + 3, none⟩ = some (.bool op')
  lst : Lst w u l
  lst' : Lst w u' l'
set_option maxRecDepth 100000 in
set_option maxHeartbeats 3200000 in
theorem show_op2 (pn pt : Int) (pS pF : ByteArray) (r0 r1 r3 : Int) (r2 : ByteArray) (hcv : opRes pn = .tuple #[.agg #[.int .i64 r0, .int .i64 r1, .string r2, .int .i64 r3], .bool true]) (V u u' : Value) (l l' : List Tv) (op op' : Bool) (vb vo vc : Nat) (w : World) (hg : TabAt w 0 opTab) (hz : 0 < w.heap.size) (hV : TwoV w V u u' l l' op op' vb vo vc) (hl : l.length ≤ 10000000) (hl' : l'.length ≤ 10000000) :
    Calls Tryd.prog 26 #[.agg (ptC 5 pn pt pS pF), V] w (RowPost w (innerL op l ++ ([⟨r1, r2, 0, 0, 0⟩] ++ innerL op' l'))) := by
  have c1 := opOf_any pn (w.alloc (.cells (ptC 5 pn pt pS pF) 46)) (hg.alloc hz _) (by rw [World.size_alloc]; omega)
  rw [hcv] at c1
  have hH := hide ((Below.refl w.heap.size w).alloc (Nat.le_refl _) (.cells (ptC 5 pn pt pS pF) 46))
  have HV := hide hV
  have HLn := hide hl
  have HLn' := hide hl'
  obtain ⟨L, hLL⟩ : ∃ L, L = innerL op l ++ ([⟨r1, r2, 0, 0, 0⟩] ++ innerL op' l') := ⟨_, rfl⟩
  have HLL := hide hLL
  rw [← hLL]
  obtain ⟨rfl, hc1, hvl, _, _, _, _, ⟨a, b, off, cap, rfl, _, _⟩, ⟨a', b', off', cap', rfl, _, _⟩⟩ := hV
  obtain ⟨n, hn⟩ : ∃ n, n = l.length := ⟨_, rfl⟩
  obtain ⟨n', hn'⟩ : ∃ n', n' = l'.length := ⟨_, rfl⟩
  rw [← hn, ← hn'] at HV
  clear hLL hl hl' hvl hn hn' hg hcv
  go_enter Tryd.func26, Tryd.ntmps26
  go_wp2_with fail
  refine c1.mono ?_
  rintro e w1 ⟨rfl, hb1⟩
  obtain ⟨o1, ho1⟩ : ∃ o1, o1 = Obj.cells #[.int .i64 r0, .int .i64 r1, .string r2, .int .i64 r3] 92 := ⟨_, rfl⟩
  obtain ⟨o2, ho2⟩ : ∃ o2, o2 = Obj.cells #[.int .i64 r1, .string r2, .int .i64 0, .int .i64 0, .int .i64 0] 44 := ⟨_, rfl⟩
  have hX : Held w ((w1.alloc o1).alloc o2) := Held.alloc (Held.alloc (Held.call hH.out hb1) _) _
  have hw : ∀ W, Held ((w1.alloc o1).alloc o2) W → Held w W := fun W h => Held.call hX h
  have HK0 : Hid (∀ W, Held ((w1.alloc o1).alloc o2) W → W.cell? ⟨vb, vo, none⟩ = some (.slice a n cap)) := fun W h => ((hw W h).cell (p := ⟨vb, vo, none⟩) HV.out.lt).trans HV.out.c0
  have HK1 : Hid (∀ W, Held ((w1.alloc o1).alloc o2) W → W.cell? ⟨vb, vo + 1, none⟩ = some (.bool op)) := fun W h => ((hw W h).cell (p := ⟨vb, vo + 1, none⟩) HV.out.lt).trans HV.out.c1
  have HK2 : Hid (∀ W, Held ((w1.alloc o1).alloc o2) W → W.cell? ⟨vb, vo + 2, none⟩ = some (.slice a' n' cap')) := fun W h => ((hw W h).cell (p := ⟨vb, vo + 2, none⟩) HV.out.lt).trans HV.out.c2
  have HK3 : Hid (∀ W, Held ((w1.alloc o1).alloc o2) W → W.cell? ⟨vb, vo + 3, none⟩ = some (.bool op')) := fun W h => ((hw W h).cell (p := ⟨vb, vo + 3, none⟩) HV.out.lt).trans HV.out.c3
  have CA : Hid (∀ W, Held ((w1.alloc o1).alloc o2) W → Calls Tryd.prog 48 #[.agg #[.slice a n cap, .bool op]] W (LstPost W (innerL op l))) := fun W h => inner_any l _ op W (HV.out.lst.call (hw W h)) (by have := HLn.out; omega)
  have CB : Hid (∀ W, Held ((w1.alloc o1).alloc o2) W → Calls Tryd.prog 48 #[.agg #[.slice a' n' cap', .bool op']] W (LstPost W (innerL op' l'))) := fun W h => inner_any l' _ op' W (HV.out.lst'.call (hw W h)) (by have := HLn'.out; omega)
  have hO : Lst ((w1.alloc o1).alloc o2) (.slice (some ⟨w1.heap.size + 1, 0, none⟩) 1 1) [⟨r1, r2, 0, 0, 0⟩] := by rw [ho2]; (focus ((repeat (first | (with_reducible assumption) | (refine tvsC_cells _ ?_ _ ?_ _ ?_ <;> first | rfl | (simp; done)) | (with_reducible refine Lst.alloc ?_ _) | (with_reducible refine Lst.drew ?_) | ((with_reducible apply Lst.call'); (focus (with_reducible assumption))))); done))
  have HO : Hid (∀ W, Held ((w1.alloc o1).alloc o2) W → Lst W (.slice (some ⟨w1.heap.size + 1, 0, none⟩) 1 1) [⟨r1, r2, 0, 0, 0⟩]) := fun W h => hO.call h
  have HG : Hid (∀ W V, LLst W V [innerL op l, [⟨r1, r2, 0, 0, 0⟩], innerL op' l'] → Held ((w1.alloc o1).alloc o2) W → Calls Tryd.prog 44 #[V] W (fun e W' => (∃ v, e = .returned v ∧ Hid (RowPost w L (.returned v) W')) ∧ Below W.heap.size W W')) := fun W V h1 h2 => by
    refine (concat_any _ V W h1 (by simp) (by have := oneV_hl (op := op) HLn.out; have := oneV_hl (op := op') HLn'.out; simp; omega)).mono ?_
    intro e W' hp
    have hq := (hw W h2).postR hp
    obtain ⟨v, rfl, _, hb⟩ := hp
    refine ⟨⟨v, rfl, ?_⟩, hb⟩
    show RowPost w L _ W'
    rw [HLL.out]
    simpa using hq
  have h0 : Held ((w1.alloc o1).alloc o2) ((w1.alloc o1).alloc o2) := Below.refl _ _
  rw [ho1, ho2] at HK0 HK1 HK2 HK3 CA CB HO HG h0
  clear c1 hb1 HV hH hX hO hw HLn HLn' HLL ho1 ho2
  go_wp2
  generalize (w1.alloc (.cells #[.int .i64 r0, .int .i64 r1, .string r2, .int .i64 r3] 92)).alloc (.cells #[.int .i64 r1, .string r2, .int .i64 0, .int .i64 0, .int .i64 0] 44) = X at *
  go_region_held3 (fun W => ((W.cell? ⟨vb, vo, none⟩ = some (.slice a n cap) ∧ W.cell? ⟨vb, vo + 1, none⟩ = some (.bool op)) ∧ (W.cell? ⟨vb, vo + 2, none⟩ = some (.slice a' n' cap') ∧ W.cell? ⟨vb, vo + 3, none⟩ = some (.bool op'))) ∧ Held X W) (first | assumption | (focus ((repeat (first | (with_reducible assumption) | ((with_reducible apply and_right'); (with_reducible assumption)) | (with_reducible refine Held.alloc ?_ _) | (with_reducible refine Held.drew ?_) | ((with_reducible apply Held.call'); (focus (with_reducible assumption))))); done)) | (with_reducible refine HK0.out _ ?_; (focus ((repeat (first | (with_reducible assumption) | ((with_reducible apply and_right'); (with_reducible assumption)) | (with_reducible refine Held.alloc ?_ _) | (with_reducible refine Held.drew ?_) | ((with_reducible apply Held.call'); (focus (with_reducible assumption))))); done))) | (with_reducible refine HK1.out _ ?_; (focus ((repeat (first | (with_reducible assumption) | ((with_reducible apply and_right'); (with_reducible assumption)) | (with_reducible refine Held.alloc ?_ _) | (with_reducible refine Held.drew ?_) | ((with_reducible apply Held.call'); (focus (with_reducible assumption))))); done))) | (with_reducible refine HK2.out _ ?_; (focus ((repeat (first | (with_reducible assumption) | ((with_reducible apply and_right'); (with_reducible assumption)) | (with_reducible refine Held.alloc ?_ _) | (with_reducible refine Held.drew ?_) | ((with_reducible apply Held.call'); (focus (with_reducible assumption))))); done))) | (with_reducible refine HK3.out _ ?_; (focus ((repeat (first | (with_reducible assumption) | ((with_reducible apply and_right'); (with_reducible assumption)) | (with_reducible refine Held.alloc ?_ _) | (with_reducible refine Held.drew ?_) | ((with_reducible apply Held.call'); (focus (with_reducible assumption))))); done))) | (refine ⟨⟨⟨HK0.out _ ?_, HK1.out _ ?_⟩, HK2.out _ ?_, HK3.out _ ?_⟩, ?_⟩ <;> (focus ((repeat (first | (with_reducible assumption) | ((with_reducible apply and_right'); (with_reducible assumption)) | (with_reducible refine Held.alloc ?_ _) | (with_reducible refine Held.drew ?_) | ((with_reducible apply Held.call'); (focus (with_reducible assumption))))); done)))) (first | (go_at_call 48; (with_reducible refine (CA.out _ ?_).mono ?_); (focus (focus ((repeat (first | (with_reducible assumption) | ((with_reducible apply and_right'); (with_reducible assumption)) | (with_reducible refine Held.alloc ?_ _) | (with_reducible refine Held.drew ?_) | ((with_reducible apply Held.call'); (focus (with_reducible assumption))))); done))); rintro e w2 ⟨v2, rfl, hl2, hb2⟩; have HL2 := hl2; obtain ⟨a2, b2, off2, cap2, rfl, _, _⟩ := hl2) | (go_at_call 48; (with_reducible refine (CB.out _ ?_).mono ?_); (focus (focus ((repeat (first | (with_reducible assumption) | ((with_reducible apply and_right'); (with_reducible assumption)) | (with_reducible refine Held.alloc ?_ _) | (with_reducible refine Held.drew ?_) | ((with_reducible apply Held.call'); (focus (with_reducible assumption))))); done))); rintro e w3 ⟨v3, rfl, hl3, hb3⟩; have HL3 := hl3; obtain ⟨a3, b3, off3, cap3, rfl, _, _⟩ := hl3) | (go_at_call 44; refine (HG.out _ _ ?_ ?_).mono ?_; (focus (refine llst3 ?_ ?_ ?_ ?_; (focus (first | rfl | (simp; done))); (focus (focus ((repeat (first | (with_reducible assumption) | (refine tvsC_cells _ ?_ _ ?_ _ ?_ <;> first | rfl | (simp; done)) | (with_reducible refine Lst.alloc ?_ _) | (with_reducible refine Lst.drew ?_) | ((with_reducible apply Lst.call'); (focus (with_reducible assumption))))); done))); (focus (refine HO.out _ ?_; (focus ((repeat (first | (with_reducible assumption) | ((with_reducible apply and_right'); (with_reducible assumption)) | (with_reducible refine Held.alloc ?_ _) | (with_reducible refine Held.drew ?_) | ((with_reducible apply Held.call'); (focus (with_reducible assumption))))); done)))); (focus (focus ((repeat (first | (with_reducible assumption) | (refine tvsC_cells _ ?_ _ ?_ _ ?_ <;> first | rfl | (simp; done)) | (with_reducible refine Lst.alloc ?_ _) | (with_reducible refine Lst.drew ?_) | ((with_reducible apply Lst.call'); (focus (with_reducible assumption))))); done))))); (focus (focus ((repeat (first | (with_reducible assumption) | ((with_reducible apply and_right'); (with_reducible assumption)) | (with_reducible refine Held.alloc ?_ _) | (with_reducible refine Held.drew ?_) | ((with_reducible apply Held.call'); (focus (with_reducible assumption))))); done))); rintro e w9 ⟨⟨v9, rfl, HB9⟩, hb9⟩))
  all_goals
    have HB : Hid (RowPost w L (.returned v9) w9) := by assumption
    clear h0 HG HK0 HK1 HK2 HK3 CA CB HO
    go_wp2
    go_ret
    exact HB.out
end Go.Proofs.YtkicbmjjbnblfaaDoor
