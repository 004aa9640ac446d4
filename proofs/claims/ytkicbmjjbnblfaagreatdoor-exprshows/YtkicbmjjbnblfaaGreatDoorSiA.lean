/- The contract of expr.show: an array's element and a conversion. | The contract of expr.show: a conversion. | The contract of expr.show: an operation. | The contract of expr.show: an operation on two values. | The contract of expr.show, whole. -/
import Derived.Test.YtkicbmjjbnblfaaGreatDoorShA
import Derived.Test.YtkicbmjjbnblfaaGreatDoorNmA
namespace Go.Proofs.YtkicbmjjbnblfaaGreatDoor
open Go.RowKit Go.Lib
/-- the one value that a part works on -/
structure OneV (w : World) (V u : Value) (l : List Tv) (op : Bool) (vb vo vc : Nat) : Prop where
  val : V = .slice (some ⟨vb, vo, none⟩) 1 vc
  cap : 1 ≤ vc
  lt : vb < w.heap.size
  c0 : w.cell? ⟨vb, vo, none⟩ = some u
  c1 : w.cell? ⟨vb, vo + 1, none⟩ = some (.bool op)
  lst : Lst w u l
set_option maxRecDepth 100000 in
set_option maxHeartbeats 3200000 in
theorem show_idx (pn pt : Int) (pS pF : ByteArray) (hS : pS.size ≤ 140737488355000) (V u : Value) (l : List Tv) (op : Bool) (vb vo vc : Nat) (w : World) (hV : OneV w V u l op vb vo vc) (hl : l.length ≤ 100000000) :
    Calls Tryz.prog 18 #[.agg (ptC 3 pn pt pS pF), V] w (RowPost w ([wdT pS, sgT ⟨#[91]⟩] ++ (l ++ [sgT ⟨#[93]⟩]))) := by
  have hw : ∀ W, Held (w.alloc (.cells (ptC 3 pn pt pS pF) 39)) W → Held w W := fun W h => Held.call ((Below.refl w.heap.size w).alloc (Nat.le_refl _) _) h
  have HW := hide hw
  have hh := heap_alloc_new w (.cells (ptC 3 pn pt pS pF) 39)
  have HK : Hid (∀ W, Held (w.alloc (.cells (ptC 3 pn pt pS pF) 39)) W → W.cell? ⟨w.heap.size, 3, none⟩ = some (.string pS)) := fun W h => (h.cell (p := ⟨w.heap.size, 3, none⟩) (by rw [World.size_alloc]; exact Nat.lt_succ_self _)).trans (Lib.cell_of_heap hh 3)
  have HK2 : Hid (∀ W, Held (w.alloc (.cells (ptC 3 pn pt pS pF) 39)) W → W.cell? ⟨vb, vo, none⟩ = some u) := fun W h => ((hw W h).cell (p := ⟨vb, vo, none⟩) hV.lt).trans hV.c0
  have HL : Hid (∀ W, Held (w.alloc (.cells (ptC 3 pn pt pS pF) 39)) W → Lst W u l) := fun W h => hV.lst.call (hw W h)
  have h0 : Held (w.alloc (.cells (ptC 3 pn pt pS pF) 39)) (w.alloc (.cells (ptC 3 pn pt pS pF) 39)) := Below.refl _ _
  have CS := hide signTok_any
  have CW := hide fun W => wordTok_any pS hS W
  obtain ⟨L, hLL⟩ : ∃ L, L = [wdT pS, sgT ⟨#[91]⟩] ++ (l ++ [sgT ⟨#[93]⟩]) := ⟨_, rfl⟩
  have HG : Hid (∀ W V, LLst W V [[wdT pS, sgT ⟨#[91]⟩], l, [sgT ⟨#[93]⟩]] → Held (w.alloc (.cells (ptC 3 pn pt pS pF) 39)) W → Calls Tryz.prog 34 #[V] W (fun e W' => (∃ v, e = .returned v ∧ Hid (RowPost w L (.returned v) W')) ∧ Below W.heap.size W W')) := fun W V h1 h2 => by
    refine (concat_any _ V W h1 (by simp) (by simp; omega)).mono ?_
    intro e W' hp
    have hq := (hw W h2).postR hp
    obtain ⟨v, rfl, _, hb⟩ := hp
    refine ⟨⟨v, rfl, ?_⟩, hb⟩
    show RowPost w L _ W'
    rw [hLL]
    simpa using hq
  rw [← hLL]
  obtain ⟨rfl, hc1, hvl, _, _, ⟨a, b, off, cap, rfl, _, _⟩⟩ := hV
  generalize l.length = n at *
  clear hS hw hh hLL hl hvl
  go_enter Tryz.func18, Tryz.ntmps18
  go_wp2
  unfold ptC at *
  generalize w.alloc (.cells #[.int .i64 3, .int .i64 pn, .int .i64 pt, .string pS, .string pF] 39) = X at *
  go_region_held3 (fun W => (W.cell? ⟨w.heap.size, 3, none⟩ = some (.string pS) ∧ W.cell? ⟨vb, vo, none⟩ = some (.slice a n cap)) ∧ Held X W) (first | assumption | (focus ((repeat (first | (with_reducible assumption) | ((with_reducible apply and_right'); (with_reducible assumption)) | (with_reducible refine Held.alloc ?_ _) | (with_reducible refine Held.drew ?_) | ((with_reducible apply Held.call'); (focus (with_reducible assumption))))); done)) | (with_reducible refine HK.out _ ?_; (focus ((repeat (first | (with_reducible assumption) | ((with_reducible apply and_right'); (with_reducible assumption)) | (with_reducible refine Held.alloc ?_ _) | (with_reducible refine Held.drew ?_) | ((with_reducible apply Held.call'); (focus (with_reducible assumption))))); done))) | (with_reducible refine HK2.out _ ?_; (focus ((repeat (first | (with_reducible assumption) | ((with_reducible apply and_right'); (with_reducible assumption)) | (with_reducible refine Held.alloc ?_ _) | (with_reducible refine Held.drew ?_) | ((with_reducible apply Held.call'); (focus (with_reducible assumption))))); done))) | (refine ⟨⟨HK.out _ ?_, HK2.out _ ?_⟩, ?_⟩ <;> (focus ((repeat (first | (with_reducible assumption) | ((with_reducible apply and_right'); (with_reducible assumption)) | (with_reducible refine Held.alloc ?_ _) | (with_reducible refine Held.drew ?_) | ((with_reducible apply Held.call'); (focus (with_reducible assumption))))); done)))) (first | (go_at_call 35; refine (CS.out _ _).mono ?_; rintro e w2 ⟨rfl, hb2⟩; unfold tvA) | (go_at_call 33; refine (CW.out _).mono ?_; rintro e w2 ⟨rfl, hb2⟩; unfold tvA) | (go_at_call 34; refine (HG.out _ _ ?_ ?_).mono ?_; (focus (refine llst3 ?_ ?_ ?_ ?_; (focus (first | rfl | (simp; done))); (focus (focus ((repeat (first | (with_reducible assumption) | (refine tvsC_cells _ ?_ _ ?_ _ ?_ <;> first | rfl | (simp; done)) | (with_reducible refine Lst.alloc ?_ _) | (with_reducible refine Lst.drew ?_) | ((with_reducible apply Lst.call'); (focus (with_reducible assumption))))); done))); (focus (refine HL.out _ ?_; (focus ((repeat (first | (with_reducible assumption) | ((with_reducible apply and_right'); (with_reducible assumption)) | (with_reducible refine Held.alloc ?_ _) | (with_reducible refine Held.drew ?_) | ((with_reducible apply Held.call'); (focus (with_reducible assumption))))); done)))); (focus (focus ((repeat (first | (with_reducible assumption) | (refine tvsC_cells _ ?_ _ ?_ _ ?_ <;> first | rfl | (simp; done)) | (with_reducible refine Lst.alloc ?_ _) | (with_reducible refine Lst.drew ?_) | ((with_reducible apply Lst.call'); (focus (with_reducible assumption))))); done))))); (focus (focus ((repeat (first | (with_reducible assumption) | ((with_reducible apply and_right'); (with_reducible assumption)) | (with_reducible refine Held.alloc ?_ _) | (with_reducible refine Held.drew ?_) | ((with_reducible apply Held.call'); (focus (with_reducible assumption))))); done))); rintro e w9 ⟨⟨v9, rfl, HB9⟩, hb9⟩))
  all_goals
    have HB : Hid (RowPost w L (.returned v9) w9) := by assumption
    clear h0 HG HK HL HK2 CS CW
    go_wp2
    go_ret
    exact HB.out
end Go.Proofs.YtkicbmjjbnblfaaGreatDoor
namespace Go.Proofs.YtkicbmjjbnblfaaGreatDoor
open Go.RowKit Go.Lib
set_option maxRecDepth 100000 in
set_option maxHeartbeats 3200000 in
theorem show_to (pn pt : Int) (pS pF : ByteArray) (cw : ByteArray) (ct : Int) (hcv : cvRes pt = .tuple #[.agg #[.string cw, .int .i64 ct], .bool true]) (hS : cw.size ≤ 140737488355000) (V u : Value) (l : List Tv) (op : Bool) (vb vo vc : Nat) (w : World) (hg : TabAt w 1 cvTab) (hz : 1 < w.heap.size) (hV : OneV w V u l op vb vo vc) (hl : l.length ≤ 100000000) :
    Calls Tryz.prog 18 #[.agg (ptC 6 pn pt pS pF), V] w (RowPost w ([wdT cw, sgT ⟨#[40]⟩] ++ (l ++ [sgT ⟨#[41]⟩]))) := by
  have c1 := cvTo_any pt (w.alloc (.cells (ptC 6 pn pt pS pF) 39)) (hg.alloc hz _) (by rw [World.size_alloc]; omega)
  rw [hcv] at c1
  have hH := hide ((Below.refl w.heap.size w).alloc (Nat.le_refl _) (.cells (ptC 6 pn pt pS pF) 39))
  have HVL := hide hV.lst
  have HVC := hide hV.c0
  have HVT := hide hV.lt
  have HLn := hide hl
  obtain ⟨L, hLL⟩ : ∃ L, L = [wdT cw, sgT ⟨#[40]⟩] ++ (l ++ [sgT ⟨#[41]⟩]) := ⟨_, rfl⟩
  have HLL := hide hLL
  have CS := hide signTok_any
  have CW := hide fun W => wordTok_any cw hS W
  rw [← hLL]
  obtain ⟨rfl, hc1, hvl, _, _, ⟨a, b, off, cap, rfl, _, _⟩⟩ := hV
  obtain ⟨n, hn⟩ : ∃ n, n = l.length := ⟨_, rfl⟩
  rw [← hn] at HVL HVC
  clear hS hLL hl hvl hn hg hcv
  go_enter Tryz.func18, Tryz.ntmps18
  go_wp2_with fail
  refine c1.mono ?_
  rintro e w1 ⟨rfl, hb1⟩
  have hw : ∀ W, Held (w1.alloc (.cells #[.string cw, .int .i64 ct] 63)) W → Held w W := fun W h => Held.call (Held.alloc (Held.call hH.out hb1) _) h
  have HW := hide hw
  have hh := heap_alloc_new w1 (.cells #[.string cw, .int .i64 ct] 63)
  have HK : Hid (∀ W, Held (w1.alloc (.cells #[.string cw, .int .i64 ct] 63)) W → W.cell? ⟨w1.heap.size, 0, none⟩ = some (.string cw)) := fun W h => (h.cell (p := ⟨w1.heap.size, 0, none⟩) (by rw [World.size_alloc]; exact Nat.lt_succ_self _)).trans (Lib.cell_of_heap hh 0)
  have HK2 : Hid (∀ W, Held (w1.alloc (.cells #[.string cw, .int .i64 ct] 63)) W → W.cell? ⟨vb, vo, none⟩ = some (.slice a n cap)) := fun W h => ((hw W h).cell (p := ⟨vb, vo, none⟩) HVT.out).trans HVC.out
  have HL : Hid (∀ W, Held (w1.alloc (.cells #[.string cw, .int .i64 ct] 63)) W → Lst W (.slice a n cap) l) := fun W h => HVL.out.call (hw W h)
  have h0 : Held (w1.alloc (.cells #[.string cw, .int .i64 ct] 63)) (w1.alloc (.cells #[.string cw, .int .i64 ct] 63)) := Below.refl _ _
  have HG : Hid (∀ W V, LLst W V [[wdT cw, sgT ⟨#[40]⟩], l, [sgT ⟨#[41]⟩]] → Held (w1.alloc (.cells #[.string cw, .int .i64 ct] 63)) W → Calls Tryz.prog 34 #[V] W (fun e W' => (∃ v, e = .returned v ∧ Hid (RowPost w L (.returned v) W')) ∧ Below W.heap.size W W')) := fun W V h1 h2 => by
    refine (concat_any _ V W h1 (by simp) (by have := HLn.out; simp; omega)).mono ?_
    intro e W' hp
    have hq := (hw W h2).postR hp
    obtain ⟨v, rfl, _, hb⟩ := hp
    refine ⟨⟨v, rfl, ?_⟩, hb⟩
    show RowPost w L _ W'
    rw [HLL.out]
    simpa using hq
  clear c1 hb1 hw hh HVL HVC HVT HLn HLL hH
  go_wp2
  generalize w1.alloc (.cells #[.string cw, .int .i64 ct] 63) = X at *
  go_region_held3 (fun W => (W.cell? ⟨w1.heap.size, 0, none⟩ = some (.string cw) ∧ W.cell? ⟨vb, vo, none⟩ = some (.slice a n cap)) ∧ Held X W) (first | assumption | (focus ((repeat (first | (with_reducible assumption) | ((with_reducible apply and_right'); (with_reducible assumption)) | (with_reducible refine Held.alloc ?_ _) | (with_reducible refine Held.drew ?_) | ((with_reducible apply Held.call'); (focus (with_reducible assumption))))); done)) | (with_reducible refine HK.out _ ?_; (focus ((repeat (first | (with_reducible assumption) | ((with_reducible apply and_right'); (with_reducible assumption)) | (with_reducible refine Held.alloc ?_ _) | (with_reducible refine Held.drew ?_) | ((with_reducible apply Held.call'); (focus (with_reducible assumption))))); done))) | (with_reducible refine HK2.out _ ?_; (focus ((repeat (first | (with_reducible assumption) | ((with_reducible apply and_right'); (with_reducible assumption)) | (with_reducible refine Held.alloc ?_ _) | (with_reducible refine Held.drew ?_) | ((with_reducible apply Held.call'); (focus (with_reducible assumption))))); done))) | (refine ⟨⟨HK.out _ ?_, HK2.out _ ?_⟩, ?_⟩ <;> (focus ((repeat (first | (with_reducible assumption) | ((with_reducible apply and_right'); (with_reducible assumption)) | (with_reducible refine Held.alloc ?_ _) | (with_reducible refine Held.drew ?_) | ((with_reducible apply Held.call'); (focus (with_reducible assumption))))); done)))) (first | (go_at_call 35; refine (CS.out _ _).mono ?_; rintro e w2 ⟨rfl, hb2⟩; unfold tvA) | (go_at_call 33; refine (CW.out _).mono ?_; rintro e w2 ⟨rfl, hb2⟩; unfold tvA) | (go_at_call 34; refine (HG.out _ _ ?_ ?_).mono ?_; (focus (refine llst3 ?_ ?_ ?_ ?_; (focus (first | rfl | (simp; done))); (focus (focus ((repeat (first | (with_reducible assumption) | (refine tvsC_cells _ ?_ _ ?_ _ ?_ <;> first | rfl | (simp; done)) | (with_reducible refine Lst.alloc ?_ _) | (with_reducible refine Lst.drew ?_) | ((with_reducible apply Lst.call'); (focus (with_reducible assumption))))); done))); (focus (refine HL.out _ ?_; (focus ((repeat (first | (with_reducible assumption) | ((with_reducible apply and_right'); (with_reducible assumption)) | (with_reducible refine Held.alloc ?_ _) | (with_reducible refine Held.drew ?_) | ((with_reducible apply Held.call'); (focus (with_reducible assumption))))); done)))); (focus (focus ((repeat (first | (with_reducible assumption) | (refine tvsC_cells _ ?_ _ ?_ _ ?_ <;> first | rfl | (simp; done)) | (with_reducible refine Lst.alloc ?_ _) | (with_reducible refine Lst.drew ?_) | ((with_reducible apply Lst.call'); (focus (with_reducible assumption))))); done))))); (focus (focus ((repeat (first | (with_reducible assumption) | ((with_reducible apply and_right'); (with_reducible assumption)) | (with_reducible refine Held.alloc ?_ _) | (with_reducible refine Held.drew ?_) | ((with_reducible apply Held.call'); (focus (with_reducible assumption))))); done))); rintro e w9 ⟨⟨v9, rfl, HB9⟩, hb9⟩))
  all_goals
    have HB : Hid (RowPost w L (.returned v9) w9) := by assumption
    clear h0 HG HK HL HK2 CS CW
    go_wp2
    go_ret
    exact HB.out
end Go.Proofs.YtkicbmjjbnblfaaGreatDoor
namespace Go.Proofs.YtkicbmjjbnblfaaGreatDoor
open Go.RowKit Go.Lib
theorem oneV_hl {op : Bool} {l : List Tv} (h : l.length ≤ 10000000) : (innerL op l).length ≤ 10000002 := by
  unfold innerL
  split
  · simp; omega
  · omega
set_option maxRecDepth 100000 in
set_option maxHeartbeats 3200000 in
theorem show_op1 (pn pt : Int) (pS pF : ByteArray) (r0 r1 r3 : Int) (r2 : ByteArray) (hcv : opRes pn = .tuple #[.agg #[.int .i64 r0, .int .i64 r1, .string r2, .int .i64 r3], .bool true]) (V u : Value) (l : List Tv) (op : Bool) (vb vo vc : Nat) (w : World) (hg : TabAt w 2 opTab) (hz : 2 < w.heap.size) (hV : OneV w V u l op vb vo vc) (hl : l.length ≤ 10000000) :
    Calls Tryz.prog 18 #[.agg (ptC 5 pn pt pS pF), V] w (RowPost w ([⟨r1, r2, 0, 0, 0⟩] ++ innerL op l)) := by
  have c1 := opOf_any pn (w.alloc (.cells (ptC 5 pn pt pS pF) 39)) (hg.alloc hz _) (by rw [World.size_alloc]; omega)
  rw [hcv] at c1
  have hH := hide ((Below.refl w.heap.size w).alloc (Nat.le_refl _) (.cells (ptC 5 pn pt pS pF) 39))
  have HVL := hide hV.lst
  have HVC := hide (And.intro hV.c0 hV.c1)
  have HVT := hide hV.lt
  have HLn := hide hl
  obtain ⟨L, hLL⟩ : ∃ L, L = [⟨r1, r2, 0, 0, 0⟩] ++ innerL op l := ⟨_, rfl⟩
  have HLL := hide hLL
  rw [← hLL]
  obtain ⟨rfl, hc1, hvl, _, _, ⟨a, b, off, cap, rfl, _, _⟩⟩ := hV
  obtain ⟨n, hn⟩ : ∃ n, n = l.length := ⟨_, rfl⟩
  rw [← hn] at HVL HVC
  clear hLL hl hvl hn hg hcv
  go_enter Tryz.func18, Tryz.ntmps18
  go_wp2_with fail
  refine c1.mono ?_
  rintro e w1 ⟨rfl, hb1⟩
  obtain ⟨o1, ho1⟩ : ∃ o1, o1 = Obj.cells #[.int .i64 r0, .int .i64 r1, .string r2, .int .i64 r3] 67 := ⟨_, rfl⟩
  obtain ⟨o2, ho2⟩ : ∃ o2, o2 = Obj.cells #[.int .i64 r1, .string r2, .int .i64 0, .int .i64 0, .int .i64 0] 54 := ⟨_, rfl⟩
  have hX : Held w ((w1.alloc o1).alloc o2) := Held.alloc (Held.alloc (Held.call hH.out hb1) _) _
  have HX := hide hX
  have d0 := (hX.cell (p := ⟨vb, vo, none⟩) HVT.out).trans HVC.out.1
  have d1 := (hX.cell (p := ⟨vb, vo + 1, none⟩) HVT.out).trans HVC.out.2
  have c2 := inner_any l (.slice a n cap) op ((w1.alloc o1).alloc o2) (HVL.out.call hX) (by have := HLn.out; omega)
  have hO : Lst ((w1.alloc o1).alloc o2) (.slice (some ⟨w1.heap.size + 1, 0, none⟩) 1 1) [⟨r1, r2, 0, 0, 0⟩] := by rw [ho2]; (focus ((repeat (first | (with_reducible assumption) | (refine tvsC_cells _ ?_ _ ?_ _ ?_ <;> first | rfl | (simp; done)) | (with_reducible refine Lst.alloc ?_ _) | (with_reducible refine Lst.drew ?_) | ((with_reducible apply Lst.call'); (focus (with_reducible assumption))))); done))
  have HO := hide hO
  rw [ho1, ho2] at d0 d1 c2
  clear c1 hb1 HVL HVC HVT hH hX hO
  go_wp2_with fail
  refine c2.mono ?_
  rintro e w3 ⟨v3, rfl, hl3, hb3⟩
  have c3 : Hid (∀ V, LLst (w3.alloc (.cells #[.slice (some ⟨w1.heap.size + 1, 0, none⟩) 1 1, v3] 24)) V [[⟨r1, r2, 0, 0, 0⟩], innerL op l] → Calls Tryz.prog 34 #[V] (w3.alloc (.cells #[.slice (some ⟨w1.heap.size + 1, 0, none⟩) 1 1, v3] 24)) (RowPost w L)) := fun V h1 => by
    refine (concat_any _ V _ h1 (by simp) (by have := oneV_hl (op := op) HLn.out; simp; omega)).mono ?_
    intro e W' hp
    have hX2 := HX.out
    rw [ho1, ho2] at hX2
    have hq := ((hX2.call hb3).alloc _).postR hp
    rw [HLL.out]
    simpa using hq
  have hO2 := HO.out
  rw [ho1, ho2] at hO2
  have c4 := c3.out _ (llst2 rfl (hO2.call hb3) hl3)
  obtain ⟨a3, b3, off3, cap3, rfl, _, _⟩ := hl3
  generalize (innerL op l).length = n3 at *
  clear c2 c3 hO2 hb3 HX HO HLL HLn d0 d1 ho1 ho2
  go_wp2_with fail
  refine c4.mono ?_
  rintro e w4 ⟨v4, rfl, hf⟩
  have HF : Hid (RowPost w L (.returned v4) w4) := ⟨v4, rfl, hf⟩
  clear c4 hf
  go_wp2
  go_ret
  exact HF.out
end Go.Proofs.YtkicbmjjbnblfaaGreatDoor
namespace Go.Proofs.YtkicbmjjbnblfaaGreatDoor
open Go.RowKit Go.Lib
/-- the two values that a part works on -/
structure TwoV (w : World) (V u u' : Value) (l l' : List Tv) (op op' : Bool) (vb vo vc : Nat) : Prop where
  val : V = .slice (some ⟨vb, vo, none⟩) 2 vc
  cap : 2 ≤ vc
  lt : vb < w.heap.size
  c0 : w.cell? ⟨vb, vo, none⟩ = some u
  c1 : w.cell? ⟨vb, vo + 1, none⟩ = some (.bool op)
  c2 : w.cell? ⟨vb, vo + 2, none⟩ = some u'
  c3 : w.cell? ⟨vb, vo + 3, none⟩ = some (.bool op')
  lst : Lst w u l
  lst' : Lst w u' l'
set_option maxRecDepth 100000 in
set_option maxHeartbeats 3200000 in
theorem show_op2 (pn pt : Int) (pS pF : ByteArray) (r0 r1 r3 : Int) (r2 : ByteArray) (hcv : opRes pn = .tuple #[.agg #[.int .i64 r0, .int .i64 r1, .string r2, .int .i64 r3], .bool true]) (V u u' : Value) (l l' : List Tv) (op op' : Bool) (vb vo vc : Nat) (w : World) (hg : TabAt w 2 opTab) (hz : 2 < w.heap.size) (hV : TwoV w V u u' l l' op op' vb vo vc) (hl : l.length ≤ 10000000) (hl' : l'.length ≤ 10000000) :
    Calls Tryz.prog 18 #[.agg (ptC 5 pn pt pS pF), V] w (RowPost w (innerL op l ++ ([⟨r1, r2, 0, 0, 0⟩] ++ innerL op' l'))) := by
  have c1 := opOf_any pn (w.alloc (.cells (ptC 5 pn pt pS pF) 39)) (hg.alloc hz _) (by rw [World.size_alloc]; omega)
  rw [hcv] at c1
  have hH := hide ((Below.refl w.heap.size w).alloc (Nat.le_refl _) (.cells (ptC 5 pn pt pS pF) 39))
  have HV := hide hV
  have HLn := hide hl
  have HLn' := hide hl'
  obtain ⟨L, hLL⟩ : ∃ L, L = innerL op l ++ ([⟨r1, r2, 0, 0, 0⟩] ++ innerL op' l') := ⟨_, rfl⟩
  have HLL := hide hLL
  rw [← hLL]
  obtain ⟨rfl, hc1, hvl, _, _, _, _, ⟨a, b, off, cap, rfl, _, _⟩, ⟨a', b', off', cap', rfl, _, _⟩⟩ := hV
  obtain ⟨n, hn⟩ : ∃ n, n = l.length := ⟨_, rfl⟩
  obtain ⟨n', hn'⟩ : ∃ n', n' = l'.length := ⟨_, rfl⟩
  rw [← hn, ← hn'] at HV
  clear hLL hl hl' hvl hn hn' hg hcv
  go_enter Tryz.func18, Tryz.ntmps18
  go_wp2_with fail
  refine c1.mono ?_
  rintro e w1 ⟨rfl, hb1⟩
  obtain ⟨o1, ho1⟩ : ∃ o1, o1 = Obj.cells #[.int .i64 r0, .int .i64 r1, .string r2, .int .i64 r3] 67 := ⟨_, rfl⟩
  obtain ⟨o2, ho2⟩ : ∃ o2, o2 = Obj.cells #[.int .i64 r1, .string r2, .int .i64 0, .int .i64 0, .int .i64 0] 54 := ⟨_, rfl⟩
  have hX : Held w ((w1.alloc o1).alloc o2) := Held.alloc (Held.alloc (Held.call hH.out hb1) _) _
  have hw : ∀ W, Held ((w1.alloc o1).alloc o2) W → Held w W := fun W h => Held.call hX h
  have HK0 : Hid (∀ W, Held ((w1.alloc o1).alloc o2) W → W.cell? ⟨vb, vo, none⟩ = some (.slice a n cap)) := fun W h => ((hw W h).cell (p := ⟨vb, vo, none⟩) HV.out.lt).trans HV.out.c0
  have HK1 : Hid (∀ W, Held ((w1.alloc o1).alloc o2) W → W.cell? ⟨vb, vo + 1, none⟩ = some (.bool op)) := fun W h => ((hw W h).cell (p := ⟨vb, vo + 1, none⟩) HV.out.lt).trans HV.out.c1
  have HK2 : Hid (∀ W, Held ((w1.alloc o1).alloc o2) W → W.cell? ⟨vb, vo + 2, none⟩ = some (.slice a' n' cap')) := fun W h => ((hw W h).cell (p := ⟨vb, vo + 2, none⟩) HV.out.lt).trans HV.out.c2
  have HK3 : Hid (∀ W, Held ((w1.alloc o1).alloc o2) W → W.cell? ⟨vb, vo + 3, none⟩ = some (.bool op')) := fun W h => ((hw W h).cell (p := ⟨vb, vo + 3, none⟩) HV.out.lt).trans HV.out.c3
  have CA : Hid (∀ W, Held ((w1.alloc o1).alloc o2) W → Calls Tryz.prog 38 #[.agg #[.slice a n cap, .bool op]] W (LstPost W (innerL op l))) := fun W h => inner_any l _ op W (HV.out.lst.call (hw W h)) (by have := HLn.out; omega)
  have CB : Hid (∀ W, Held ((w1.alloc o1).alloc o2) W → Calls Tryz.prog 38 #[.agg #[.slice a' n' cap', .bool op']] W (LstPost W (innerL op' l'))) := fun W h => inner_any l' _ op' W (HV.out.lst'.call (hw W h)) (by have := HLn'.out; omega)
  have hO : Lst ((w1.alloc o1).alloc o2) (.slice (some ⟨w1.heap.size + 1, 0, none⟩) 1 1) [⟨r1, r2, 0, 0, 0⟩] := by rw [ho2]; (focus ((repeat (first | (with_reducible assumption) | (refine tvsC_cells _ ?_ _ ?_ _ ?_ <;> first | rfl | (simp; done)) | (with_reducible refine Lst.alloc ?_ _) | (with_reducible refine Lst.drew ?_) | ((with_reducible apply Lst.call'); (focus (with_reducible assumption))))); done))
  have HO : Hid (∀ W, Held ((w1.alloc o1).alloc o2) W → Lst W (.slice (some ⟨w1.heap.size + 1, 0, none⟩) 1 1) [⟨r1, r2, 0, 0, 0⟩]) := fun W h => hO.call h
  have HG : Hid (∀ W V, LLst W V [innerL op l, [⟨r1, r2, 0, 0, 0⟩], innerL op' l'] → Held ((w1.alloc o1).alloc o2) W → Calls Tryz.prog 34 #[V] W (fun e W' => (∃ v, e = .returned v ∧ Hid (RowPost w L (.returned v) W')) ∧ Below W.heap.size W W')) := fun W V h1 h2 => by
    refine (concat_any _ V W h1 (by simp) (by have := oneV_hl (op := op) HLn.out; have := oneV_hl (op := op') HLn'.out; simp; omega)).mono ?_
    intro e W' hp
    have hq := (hw W h2).postR hp
    obtain ⟨v, rfl, _, hb⟩ := hp
    refine ⟨⟨v, rfl, ?_⟩, hb⟩
    show RowPost w L _ W'
    rw [HLL.out]
    simpa using hq
  have h0 : Held ((w1.alloc o1).alloc o2) ((w1.alloc o1).alloc o2) := Below.refl _ _
  rw [ho1, ho2] at HK0 HK1 HK2 HK3 CA CB HO HG h0
  clear c1 hb1 HV hH hX hO hw HLn HLn' HLL ho1 ho2
  go_wp2
  generalize (w1.alloc (.cells #[.int .i64 r0, .int .i64 r1, .string r2, .int .i64 r3] 67)).alloc (.cells #[.int .i64 r1, .string r2, .int .i64 0, .int .i64 0, .int .i64 0] 54) = X at *
  go_region_held3 (fun W => ((W.cell? ⟨vb, vo, none⟩ = some (.slice a n cap) ∧ W.cell? ⟨vb, vo + 1, none⟩ = some (.bool op)) ∧ (W.cell? ⟨vb, vo + 2, none⟩ = some (.slice a' n' cap') ∧ W.cell? ⟨vb, vo + 3, none⟩ = some (.bool op'))) ∧ Held X W) (first | assumption | (focus ((repeat (first | (with_reducible assumption) | ((with_reducible apply and_right'); (with_reducible assumption)) | (with_reducible refine Held.alloc ?_ _) | (with_reducible refine Held.drew ?_) | ((with_reducible apply Held.call'); (focus (with_reducible assumption))))); done)) | (with_reducible refine HK0.out _ ?_; (focus ((repeat (first | (with_reducible assumption) | ((with_reducible apply and_right'); (with_reducible assumption)) | (with_reducible refine Held.alloc ?_ _) | (with_reducible refine Held.drew ?_) | ((with_reducible apply Held.call'); (focus (with_reducible assumption))))); done))) | (with_reducible refine HK1.out _ ?_; (focus ((repeat (first | (with_reducible assumption) | ((with_reducible apply and_right'); (with_reducible assumption)) | (with_reducible refine Held.alloc ?_ _) | (with_reducible refine Held.drew ?_) | ((with_reducible apply Held.call'); (focus (with_reducible assumption))))); done))) | (with_reducible refine HK2.out _ ?_; (focus ((repeat (first | (with_reducible assumption) | ((with_reducible apply and_right'); (with_reducible assumption)) | (with_reducible refine Held.alloc ?_ _) | (with_reducible refine Held.drew ?_) | ((with_reducible apply Held.call'); (focus (with_reducible assumption))))); done))) | (with_reducible refine HK3.out _ ?_; (focus ((repeat (first | (with_reducible assumption) | ((with_reducible apply and_right'); (with_reducible assumption)) | (with_reducible refine Held.alloc ?_ _) | (with_reducible refine Held.drew ?_) | ((with_reducible apply Held.call'); (focus (with_reducible assumption))))); done))) | (refine ⟨⟨⟨HK0.out _ ?_, HK1.out _ ?_⟩, HK2.out _ ?_, HK3.out _ ?_⟩, ?_⟩ <;> (focus ((repeat (first | (with_reducible assumption) | ((with_reducible apply and_right'); (with_reducible assumption)) | (with_reducible refine Held.alloc ?_ _) | (with_reducible refine Held.drew ?_) | ((with_reducible apply Held.call'); (focus (with_reducible assumption))))); done)))) (first | (go_at_call 38; (with_reducible refine (CA.out _ ?_).mono ?_); (focus (focus ((repeat (first | (with_reducible assumption) | ((with_reducible apply and_right'); (with_reducible assumption)) | (with_reducible refine Held.alloc ?_ _) | (with_reducible refine Held.drew ?_) | ((with_reducible apply Held.call'); (focus (with_reducible assumption))))); done))); rintro e w2 ⟨v2, rfl, hl2, hb2⟩; have HL2 := hl2; obtain ⟨a2, b2, off2, cap2, rfl, _, _⟩ := hl2) | (go_at_call 38; (with_reducible refine (CB.out _ ?_).mono ?_); (focus (focus ((repeat (first | (with_reducible assumption) | ((with_reducible apply and_right'); (with_reducible assumption)) | (with_reducible refine Held.alloc ?_ _) | (with_reducible refine Held.drew ?_) | ((with_reducible apply Held.call'); (focus (with_reducible assumption))))); done))); rintro e w3 ⟨v3, rfl, hl3, hb3⟩; have HL3 := hl3; obtain ⟨a3, b3, off3, cap3, rfl, _, _⟩ := hl3) | (go_at_call 34; refine (HG.out _ _ ?_ ?_).mono ?_; (focus (refine llst3 ?_ ?_ ?_ ?_; (focus (first | rfl | (simp; done))); (focus (focus ((repeat (first | (with_reducible assumption) | (refine tvsC_cells _ ?_ _ ?_ _ ?_ <;> first | rfl | (simp; done)) | (with_reducible refine Lst.alloc ?_ _) | (with_reducible refine Lst.drew ?_) | ((with_reducible apply Lst.call'); (focus (with_reducible assumption))))); done))); (focus (refine HO.out _ ?_; (focus ((repeat (first | (with_reducible assumption) | ((with_reducible apply and_right'); (with_reducible assumption)) | (with_reducible refine Held.alloc ?_ _) | (with_reducible refine Held.drew ?_) | ((with_reducible apply Held.call'); (focus (with_reducible assumption))))); done)))); (focus (focus ((repeat (first | (with_reducible assumption) | (refine tvsC_cells _ ?_ _ ?_ _ ?_ <;> first | rfl | (simp; done)) | (with_reducible refine Lst.alloc ?_ _) | (with_reducible refine Lst.drew ?_) | ((with_reducible apply Lst.call'); (focus (with_reducible assumption))))); done))))); (focus (focus ((repeat (first | (with_reducible assumption) | ((with_reducible apply and_right'); (with_reducible assumption)) | (with_reducible refine Held.alloc ?_ _) | (with_reducible refine Held.drew ?_) | ((with_reducible apply Held.call'); (focus (with_reducible assumption))))); done))); rintro e w9 ⟨⟨v9, rfl, HB9⟩, hb9⟩))
  all_goals
    have HB : Hid (RowPost w L (.returned v9) w9) := by assumption
    clear h0 HG HK0 HK1 HK2 HK3 CA CB HO
    go_wp2
    go_ret
    exact HB.out
end Go.Proofs.YtkicbmjjbnblfaaGreatDoor
namespace Go.Proofs.YtkicbmjjbnblfaaGreatDoor
open Go.RowKit Go.Lib
def opTv (n : Int) : Tv := ⟨(opTok n).kind, ⟨(opTok n).s.toArray⟩, 0, 0, 0⟩
/-- the tokens of a part that works on these values -/
def showL (x : Pv) (vs : List (List Tv × Bool)) : List Tv :=
  if x.k = 1 then [numTok x.n x.t] else if x.k = 2 then [wdT x.s] else if x.k = 4 then [wdT x.s, sgT ⟨#[46]⟩, wdT x.f]
  else match vs with
  | [v] => if x.k = 3 then [wdT x.s, sgT ⟨#[91]⟩] ++ (v.1 ++ [sgT ⟨#[93]⟩]) else if x.k = 6 then [wdT ⟨(toW x.t).toArray⟩, sgT ⟨#[40]⟩] ++ (v.1 ++ [sgT ⟨#[41]⟩]) else [opTv x.n] ++ innerL v.2 v.1
  | [v, v'] => innerL v.2 v.1 ++ ([opTv x.n] ++ innerL v'.2 v'.1)
  | _ => []
/-- a slice of pieces that reads as the values vs -/
def VsAt (w : World) (V : Value) (vs : List (List Tv × Bool)) : Prop :=
  ∃ vb vo vc, V = .slice (some ⟨vb, vo, none⟩) vs.length vc ∧ vs.length ≤ vc ∧ vb < w.heap.size ∧ ∀ i v, vs[i]? = some v → ∃ u, w.cell? ⟨vb, vo + i * 2, none⟩ = some u ∧ w.cell? ⟨vb, vo + i * 2 + 1, none⟩ = some (.bool v.2) ∧ Lst w u v.1
theorem may_f {p : Pt} (h : mayP p = true) : p.f.length ≤ 24 := by
  have key : p.f = [] ∨ wordB p.f = true := by
    unfold mayP at h
    split at h
    · simp at h; exact .inl h.2.1
    · split at h
      · simp at h; exact .inl h.1
      · split at h
        · simp at h; exact .inr h.2.2.2
        · split at h
          · simp at h; exact .inl h.2.1
          · split at h
            · simp at h; exact .inl h.2.1
            · cases h
  rcases key with h | h
  · rw [h]; decide
  · unfold wordB at h
    split at h
    · cases h
    · next e => simp at h; rw [e]; simp; omega
theorem op_res {n : Int} (h : 1 ≤ n ∧ n ≤ 16) : ∃ r0 r3, opRes n = .tuple #[.agg #[.int .i64 r0, .int .i64 (opTok n).kind, .string ⟨(opTok n).s.toArray⟩, .int .i64 r3], .bool true] := by
  have : n = 1 ∨ n = 2 ∨ n = 3 ∨ n = 4 ∨ n = 5 ∨ n = 6 ∨ n = 7 ∨ n = 8 ∨ n = 9 ∨ n = 10 ∨ n = 11 ∨ n = 12 ∨ n = 13 ∨ n = 14 ∨ n = 15 ∨ n = 16 := by omega
  rcases this with rfl | rfl | rfl | rfl | rfl | rfl | rfl | rfl | rfl | rfl | rfl | rfl | rfl | rfl | rfl | rfl <;> exact ⟨_, _, rfl⟩
theorem cv_res {t : Int} (h : t = 2 ∨ t = 3 ∨ t = 4) : ∃ r, cvRes t = .tuple #[.agg #[.string ⟨(toW t).toArray⟩, .int .i64 r], .bool true] := by
  rcases h with rfl | rfl | rfl <;> exact ⟨_, rfl⟩
theorem toW_len (t : Int) : (toW t).length ≤ 7 := by
  unfold toW
  split
  · decide
  · split <;> decide
theorem takes_012 (p : Pt) : takes p = 0 ∨ takes p = 1 ∨ takes p = 2 := by
  unfold takes
  by_cases h : p.kind = 3 ∨ p.kind = 6
  · rw [if_pos h]; exact .inr (.inl rfl)
  · rw [if_neg h]
    by_cases h' : p.kind = 5 ∧ (p.n = 15 ∨ p.n = 16)
    · rw [if_pos h']; exact .inr (.inl rfl)
    · rw [if_neg h']
      by_cases h5 : p.kind = 5
      · rw [if_pos h5]; exact .inr (.inr rfl)
      · rw [if_neg h5]; exact .inl rfl
theorem show_any (x : Pv) (hm : mayP (ptV x) = true) (vs : List (List Tv × Bool)) (hv : vs.length = takes (ptV x)) (V : Value) (w : World) (hV : 0 < vs.length → VsAt w V vs) (hl : ∀ v ∈ vs, v.1.length ≤ 10000000) (hg : Glo w) :
    Calls Tryz.prog 18 #[.agg #[.int .i64 x.k, .int .i64 x.n, .int .i64 x.t, .string x.s, .string x.f], V] w (RowPost w (showL x vs)) := by
  have hs : x.s.size ≤ 140737488355000 := by have h := may_s hm; rw [show (ptV x).s = x.s.data.toList from rfl, text_len] at h; omega
  have hf : x.f.size ≤ 140737488355000 := by have h := may_f hm; rw [show (ptV x).f = x.f.data.toList from rfl, text_len] at h; omega
  have h1 := hg.lt
  obtain ⟨k, n, t, s, f⟩ := x
  simp only [] at hs hf ⊢
  have ht := takes_012 (ptV ⟨k, n, t, s, f⟩)
  rcases ht with ht | ht | ht
  · have hk : k = 1 ∨ k = 2 ∨ k = 4 := by
      rcases may_leaf ht hm with ⟨a, b, e, _⟩ | ⟨a, e, _⟩ | ⟨a, b, e, _⟩
      · exact .inl (congrArg Pt.kind e)
      · exact .inr (.inl (congrArg Pt.kind e))
      · exact .inr (.inr (congrArg Pt.kind e))
    rcases hk with rfl | rfl | rfl
    · exact show_num n t s f V w
    · exact show_var n t s f hs V w
    · exact show_fld n t s f hs hf V w
  · obtain ⟨v, rfl⟩ : ∃ v, vs = [v] := by
      match vs, hv.trans ht with
      | [v], _ => exact ⟨v, rfl⟩
    obtain ⟨vb, vo, vc, hv1, hv2, hv3, hv4⟩ := hV (by simp)
    obtain ⟨u, q0, q1, q2⟩ := hv4 0 v rfl
    have hO : OneV w V u v.1 v.2 vb vo vc := ⟨hv1, by simpa using hv2, hv3, by simpa using q0, by simpa using q1, q2⟩
    have hl1 := hl v (by simp)
    rcases takes1 ht with h | h | ⟨h, h'⟩
    · obtain rfl : k = 3 := h
      exact show_idx n t s f hs V u v.1 v.2 vb vo vc w hO (by omega)
    · obtain rfl : k = 6 := h
      obtain ⟨r, hr⟩ := cv_res (may6 rfl hm).2
      exact show_to n t s f ⟨(toW t).toArray⟩ r hr (by have := toW_len t; show (toW t).toArray.size ≤ _; simp; omega) V u v.1 v.2 vb vo vc w hg.conv (by omega) hO (by omega)
    · obtain rfl : k = 5 := h
      obtain ⟨r0, r3, hr⟩ := op_res (may5 rfl hm).2
      exact show_op1 n t s f r0 _ r3 _ hr V u v.1 v.2 vb vo vc w hg.ops (by omega) hO hl1
  · obtain ⟨v, v', rfl⟩ : ∃ v v', vs = [v, v'] := by
      match vs, hv.trans ht with
      | [v, v'], _ => exact ⟨v, v', rfl⟩
    obtain ⟨vb, vo, vc, hv1, hv2, hv3, hv4⟩ := hV (by simp)
    obtain ⟨u, q0, q1, q2⟩ := hv4 0 v rfl
    obtain ⟨u', p0, p1, p2⟩ := hv4 1 v' rfl
    have hO : TwoV w V u u' v.1 v'.1 v.2 v'.2 vb vo vc := ⟨hv1, by simpa using hv2, hv3, by simpa using q0, by simpa using q1, by simpa using p0, by simpa using p1, q2, p2⟩
    obtain ⟨h, _⟩ := takes2 ht
    obtain rfl : k = 5 := h
    obtain ⟨r0, r3, hr⟩ := op_res (may5 rfl hm).2
    exact show_op2 n t s f r0 _ r3 _ hr V u u' v.1 v'.1 v.2 v'.2 vb vo vc w hg.ops (by omega) hO (hl v (by simp)) (hl v' (by simp))
end Go.Proofs.YtkicbmjjbnblfaaGreatDoor
