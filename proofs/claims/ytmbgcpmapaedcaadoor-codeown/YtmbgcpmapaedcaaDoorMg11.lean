/- code: take, linesMayBe. | code: cellsMayBe, frameMayBe. -/
import Derived.Test.YtmbgcpmapaedcaaDoorMg8
import Derived.Laws.OwnMore
import Derived.Test.YtmbgcpmapaedcaaDoorCkE
namespace Go.Proofs.YtmbgcpmapaedcaaDoor
open Go.RowKit
/-- a row of marks: which cells are taken -/
def Bt (w : World) (g m : Nat) (seen : List Int) : Prop := ∃ cur, w.heap[g]? = some (.cells cur 4 (0, 0)) ∧ cur.size = m ∧ ∀ c : Nat, c < m → cur[c]? = some (.bool (seen.contains (c : Int)))
theorem Bt.cell {w : World} {g m : Nat} {s : List Int} (h : Bt w g m s) {c : Nat} (hc : c < m) : w.cell? ⟨g, c, none⟩ = some (.bool (s.contains (c : Int))) := by
  obtain ⟨cur, hh, hs, ht⟩ := h
  rw [Lib.cell_of_heap hh]
  exact ht c hc
theorem Bt.fr {w : World} {g m : Nat} {s : List Int} (h : Bt w g m s) (c : Nat) : w.frozen? ⟨g, c, none⟩ = false := by
  obtain ⟨cur, hh, -⟩ := h
  exact Lib.frozen_of_heap hh c
theorem Bt.set {w : World} {g m : Nat} {s : List Int} (h : Bt w g m s) (c : Nat) : Bt (w.setCell ⟨g, c, none⟩ (.bool true)) g m ((c : Int) :: s) := by
  obtain ⟨cur, hh, hs, ht⟩ := h
  refine ⟨_, Lib.heap_setCell_same hh _, by simp [hs], fun j hj => ?_⟩
  rw [Array.getElem?_setIfInBounds]
  by_cases e : c = j
  · subst e
    rw [if_pos rfl, if_pos (by omega), List.contains_cons, beq_self_eq_true]; rfl
  · rw [if_neg e, ht j hj, List.contains_cons]
    have : ((j : Int) == (c : Int)) = false := by rw [beq_eq_false_iff_ne]; omega
    rw [this]; rfl
theorem Bt.lt {w : World} {g m : Nat} {s : List Int} (h : Bt w g m s) : g < w.heap.size := by
  obtain ⟨cur, hh, -⟩ := h
  exact (Array.getElem?_eq_some_iff.1 hh).1
theorem Bt.drewN {w : World} {g m : Nat} {s : List Int} (h : Bt w g m s) (n : Nat) : Bt (w.drewN n) g m s := h
theorem line_app (n : Nat) (a b : List Int) : ∀ s, lineB n s (a ++ b) = (lineB n s a && lineB n (a.reverse ++ s) b) := by
  induction a with
  | nil => intro s; rfl
  | cons c r ih =>
    intro s
    show (inB c n && (!(s.contains c) && lineB n (c :: s) (r ++ b))) = ((inB c n && (!(s.contains c) && lineB n (c :: s) r)) && lineB n ((c :: r).reverse ++ s) b)
    rw [ih, List.reverse_cons, List.append_assoc]
    show _ = ((inB c n && (!(s.contains c) && lineB n (c :: s) r)) && lineB n (r.reverse ++ (c :: s)) b)
    simp only [Bool.and_assoc]
theorem below_set {B g : Nat} {a w : World} (h : Below B a w) (hg : B ≤ g) (k : Nat) (v : Value) : Below B a (w.setCell ⟨g, k, none⟩ v) :=
  h.trans ⟨rfl, rfl, rfl, by simp, fun j hj => heap_setCell_other w ⟨g, k, none⟩ j v (by show j ≠ g; omega)⟩
set_option maxRecDepth 100000 in
set_option maxHeartbeats 1600000 in
theorem take_any (g m cp : Nat) (hm : m ≤ 1024) (seen : List Int) (cv : Value) (l : List Int) (w0 w : World) (hL : ILst w0 cv l) (hlen : l.length ≤ 35184372088832) (hb : Below w0.heap.size w0 w) (hg : w0.heap.size ≤ g) (hB : Bt w g m seen) :
    Calls Tryd.prog 56 #[.slice (some ⟨g, 0, none⟩) m cp, cv] w fun e w' => e = .returned (.bool (lineB m seen l)) ∧ Below w0.heap.size w0 w' ∧ (lineB m seen l = true → Bt w' g m (l.reverse ++ seen)) := by
  obtain ⟨aa, ab, aoff, acap, rfl, hA, hI⟩ := hL
  have HA := hide hA
  have HI := hide hI
  have HBW := hide hb
  have HBT := hide hB
  obtain ⟨n, hn⟩ : ∃ n, n = l.length := ⟨_, rfl⟩
  rw [← hn] at hlen ⊢
  have HN := hide hn
  have n0 : (0 : Int) ≤ (n : Int) := by omega
  have n5 : (n : Int) ≤ 35184372088832 := by omega
  have m0 : (0 : Int) ≤ (m : Int) := by omega
  have m5 : (m : Int) ≤ 1024 := by omega
  clear hn hA hI hb hB
  go_enter Tryd.func56, Tryd.ntmps56
  go_wp2_with fail
  go_loopw [6, 9] (fun _ i wr => ∃ k : Nat, k ≤ n ∧ i = .int .i64 (k : Int) ∧ Hid (lineB m seen l = lineB m ((l.take k).reverse ++ seen) (l.drop k) ∧ Bt wr g m ((l.take k).reverse ++ seen) ∧ Below w0.heap.size w0 wr)) (fun _ i _ => n - (intOf i).toNat)
  case atStart => exact ⟨0, by omega, rfl, rfl, HBT.out, HBW.out⟩
  case round =>
    obtain ⟨k, hk, rfl, hh⟩ := hrel
    obtain ⟨he, ht, hw⟩ := hh.out
    have k0 : (0 : Int) ≤ (k : Int) := by omega
    by_cases hlt : k < n
    · have j1 : (k : Int) < (n : Int) := by omega
      obtain ⟨x, hx⟩ : ∃ x, l[k]? = some x := ⟨_, List.getElem?_eq_getElem (by rw [← HN.out]; exact hlt)⟩
      obtain ⟨hab, rfl⟩ := HA.out (by rw [← HN.out]; omega)
      have c1 := (hw.cell (p := ⟨ab, aoff + k, none⟩) hab).trans (HI.out k x hx)
      have hd : l.drop k = x :: l.drop (k + 1) := by
        obtain ⟨h, rfl⟩ := List.getElem?_eq_some_iff.1 hx
        exact List.drop_eq_getElem_cons h
      have htk : (l.take (k + 1)).reverse ++ seen = x :: ((l.take k).reverse ++ seen) := by
        rw [List.take_add_one, hx]; simp
      rw [hd] at he
      have he2 : Hid (lineB m seen l = (inB x m && (!(((l.take k).reverse ++ seen).contains x) && lineB m (x :: ((l.take k).reverse ++ seen)) (l.drop (k + 1))))) := he
      have m1 := fun W => within_any x m W
      have HW := hide hw
      have HT := hide ht
      have HK := hide htk
      clear hx hd he htk hh hw ht
      generalize (l.take k).reverse ++ seen = sn at *
      cases hin : inB x m with
      | false =>
        rw [hin] at m1 he2
        have HE : Hid (lineB m seen l = false) := by show _ = _; rw [he2.out]; rfl
        clear he2 hin
        go_wp2_with (go_at_call 44; refine (m1 _).mono ?_; rintro e w1 ⟨rfl, rfl⟩)
        go_ret
        exact ⟨ret_b HE.out.symm, HW.out, fun h => absurd (HE.out.symm.trans h) (by simp)⟩
      | true =>
        rw [hin] at m1 he2
        have hh : 0 ≤ x ∧ x < (m : Int) := by
          unfold inB at hin
          simp only [Bool.and_eq_true, decide_eq_true_eq] at hin
          exact hin
        obtain ⟨x0, x1⟩ := hh
        obtain ⟨p, rfl⟩ : ∃ p : Nat, x = (p : Int) := ⟨x.toNat, by omega⟩
        have d1 := HT.out.cell (c := p) (by omega)
        have d2 := HT.out.fr p
        have HS := hide (HT.out.set p)
        have HBS := hide (below_set HW.out hg p (.bool true))
        clear hin
        cases hs : sn.contains (p : Int) with
        | true =>
          rw [hs] at d1 he2
          have HE : Hid (lineB m seen l = false) := by show _ = _; rw [he2.out]; rfl
          clear he2 hs
          go_wp2_with (go_at_call 44; refine (m1 _).mono ?_; rintro e w1 ⟨rfl, rfl⟩)
          go_ret
          exact ⟨ret_b HE.out.symm, HW.out, fun h => absurd (HE.out.symm.trans h) (by simp)⟩
        | false =>
          rw [hs] at d1 he2
          clear hs
          go_wp2_with (go_at_call 44; refine (m1 _).mono ?_; rintro e w1 ⟨rfl, rfl⟩)
          go_roundw
          case rel => exact ⟨k + 1, by omega, by go_num, by rw [HK.out, he2.out]; rfl, by rw [HK.out]; exact HS.out, HBS.out⟩
          case measure => simp [intOf]; omega
    · obtain rfl : k = n := by omega
      have HE : Hid (lineB m seen l = true) := by
        show _ = _
        rw [he, List.drop_eq_nil_of_le (by rw [← HN.out]; exact Nat.le_refl _)]; rfl
      have HT : Hid (Bt wr g m (l.reverse ++ seen)) := by
        show Bt _ _ _ _
        rw [List.take_of_length_le (by rw [← HN.out]; exact Nat.le_refl _)] at ht
        exact ht
      have HW := hide hw
      clear he ht hw hh
      go_wp2
      go_ret
      exact ⟨ret_b HE.out.symm, HW.out, fun _ => HT.out⟩
theorem info4 : (Tryd.prog.info? 4).map (fun i => (i.zero, i.size, i.bytes)) = some (some (.bool false), 1, 1) := by kernel_rfl
theorem make4 (m : Nat) (hm : m ≤ 1024) (u : World) : (Instr.makeSlice 84 (.int .i64 (m : Int)) (.int .i64 (m : Int))).run Tryd.prog u = .ok (.slice (some ⟨u.heap.size, 0, none⟩) m m) (u.alloc (.cells (madeCells #[.bool false] m) 4)) := by
  obtain ⟨i0, hi, hz0, hz1, hz2⟩ := info_parts info4
  have h := run_make (P := Tryd.prog) u 84 4 i0 (.bool false) Tryd.underlying84 hi hz0 .i64 .i64 (m : Int) (m : Int) (by omega) (by omega) (by rw [hz2]; omega) (by omega)
  rw [Int.toNat_natCast] at h
  simpa [hz1, Value.cells] using h
theorem Bt.new (u : World) (m : Nat) : Bt (u.alloc (.cells (madeCells #[.bool false] m) 4)) u.heap.size m [] := by
  refine ⟨_, heap_alloc_new _ _, size_madeCells _ _, fun c hc => ?_⟩
  rw [← Array.getElem?_toList, toList_madeCells_one, List.getElem?_replicate, if_pos hc]; rfl
set_option maxRecDepth 100000 in
set_option maxHeartbeats 1600000 in
theorem lines_any (nm tv fv iv ov cv : Value) (ty ins outs : List Int) (w : World) (hT : ILst w tv ty) (hn : ty.length ≤ 1024) (hI : ILst w iv ins) (hO : ILst w ov outs) (hil : ins.length ≤ 35184372088832) (hol : outs.length ≤ 35184372088832) :
    Calls Tryd.prog 34 #[.agg #[nm, tv, fv, iv, ov, cv]] w fun e w' => e = .returned (.bool (lineB ty.length [] (ins ++ outs))) ∧ Below w.heap.size w w' := by
  obtain ⟨ta, tcap, rfl⟩ := hT.shape
  have E : Hid (lineB ty.length [] (ins ++ outs) = (lineB ty.length [] ins && lineB ty.length (ins.reverse ++ []) outs)) := line_app _ _ _ _
  generalize ty.length = m at *
  have hmk := make4 m hn
  have m0 : (0 : Int) ≤ (m : Int) := by omega
  have HB1 : Hid (∀ A, Below w.heap.size w (w.alloc A)) := fun A => (Below.refl _ _).alloc (Nat.le_refl _) _
  have t1 : Hid (∀ (w0 W : World) (g : Nat) (s : List Int) (hw : Below w.heap.size w w0) (hb : Below w0.heap.size w0 W) (hg : w0.heap.size ≤ g) (hB : Bt W g m s), Calls Tryd.prog 56 #[.slice (some ⟨g, 0, none⟩) m m, iv] W fun e w' => e = .returned (.bool (lineB m s ins)) ∧ Below w0.heap.size w0 w' ∧ (lineB m s ins = true → Bt w' g m (ins.reverse ++ s))) :=
    fun w0 W g s hw hb hg hB => take_any g m m hn s iv ins w0 W (hI.on hw) hil hb hg hB
  have t2 : Hid (∀ (w0 W : World) (g : Nat) (s : List Int) (hw : Below w.heap.size w w0) (hb : Below w0.heap.size w0 W) (hg : w0.heap.size ≤ g) (hB : Bt W g m s), Calls Tryd.prog 56 #[.slice (some ⟨g, 0, none⟩) m m, ov] W fun e w' => e = .returned (.bool (lineB m s outs)) ∧ Below w0.heap.size w0 w' ∧ (lineB m s outs = true → Bt w' g m (outs.reverse ++ s))) :=
    fun w0 W g s hw hb hg hB => take_any g m m hn s ov outs w0 W (hO.on hw) hol hb hg hB
  clear hT hI hO hil hol
  have key : ∀ R, Hid (lineB m [] (ins ++ outs) = R) → Calls Tryd.prog 34 #[.agg #[nm, .slice ta m tcap, fv, iv, ov, cv]] w fun e w' => e = .returned (.bool R) ∧ Below w.heap.size w w' := fun R hR => by
    have HN : Hid (∀ A, Bt ((w.alloc A).alloc (.cells (madeCells #[.bool false] m) 4)) (w.heap.size + 1) m []) := fun A => by
      have h := Bt.new (w.alloc A) m
      rw [show (w.alloc A).heap.size = w.heap.size + 1 from by simp] at h
      exact h
    have HB2 : Hid (∀ A B, Below (w.alloc A).heap.size (w.alloc A) ((w.alloc A).alloc B)) := fun A B => (Below.refl _ _).alloc (Nat.le_refl _) _
    cases hb : lineB m [] ins with
    | false =>
      have HR : Hid (R = false) := by show _ = _; rw [← hR.out, E.out, hb]; rfl
      clear hR E
      go_enter Tryd.func34, Tryd.ntmps34
      go_wp2_with fail
      refine (t1.out (w.alloc _) _ (w.heap.size + 1) [] (HB1.out _) (HB2.out _ _) (by simp) (HN.out _)).mono ?_
      rintro e w1 ⟨rfl, b1, -⟩
      rw [hb]
      have B1 := hide ((HB1.out _).trans (b1.mono (by simp)))
      clear b1
      go_wp2_with fail
      go_ret
      exact ⟨ret_b HR.out.symm, B1.out⟩
    | true =>
      have HR : Hid (R = lineB m (ins.reverse ++ []) outs) := by show _ = _; rw [← hR.out, E.out, hb]; rfl
      clear hR E
      go_enter Tryd.func34, Tryd.ntmps34
      go_wp2_with fail
      refine (t1.out (w.alloc _) _ (w.heap.size + 1) [] (HB1.out _) (HB2.out _ _) (by simp) (HN.out _)).mono ?_
      rintro e w1 ⟨rfl, b1, bt⟩
      rw [hb] at bt ⊢
      have HBT := hide (bt rfl)
      have c4 := b1.cell (p := ⟨w.heap.size, 4, none⟩) (by simp)
      simp [go_sem] at c4
      have HB3 := hide b1
      clear b1 bt
      go_wp2_with fail
      refine (t2.out (w.alloc _) _ (w.heap.size + 1) _ (HB1.out _) HB3.out (by simp) HBT.out).mono ?_
      rintro e w2 ⟨rfl, b2, -⟩
      rw [← HR.out]
      have B2 := hide ((HB1.out _).trans (b2.mono (by simp)))
      clear b2
      go_wp2_with fail
      go_ret
      exact ⟨rfl, B2.out⟩
  exact key _ rfl
end Go.Proofs.YtmbgcpmapaedcaaDoor
namespace Go.Proofs.YtmbgcpmapaedcaaDoor
open Go.RowKit
/-- the tables that Check reads -/
structure GlC (w : World) : Prop where
  glo : Four.Glo w
  kw : Ex.TabAt w 0 Ex.kwTab
theorem GlC.on {w w' : World} (h : GlC w) {B : Nat} (hb : Below B w w') (hB : 1 < B) : GlC w' := ⟨h.glo.below hb hB, h.kw.below hb (by omega)⟩
theorem GlC.lt {w : World} (h : GlC w) : 1 < w.heap.size := h.glo.lt
theorem fit_next {a b : List Int} {k : Nat} {x y : Int} (h : (List.zipWith Four.fitB (a.take k) (b.take k)).all id = true) (hx : a[k]? = some x) (hy : b[k]? = some y) (e : Four.fitB x y = true) : (List.zipWith Four.fitB (a.take (k + 1)) (b.take (k + 1))).all id = true := by
  have ha : k < a.length := (List.getElem?_eq_some_iff.1 hx).1
  have hb : k < b.length := (List.getElem?_eq_some_iff.1 hy).1
  rw [List.take_add_one, List.take_add_one, hx, hy, List.zipWith_append (by rw [List.length_take, List.length_take]; omega), List.all_append, h]
  simp [e]
theorem fit_fail {a b : List Int} {k : Nat} {x y : Int} (hx : a[k]? = some x) (hy : b[k]? = some y) (e : Four.fitB x y = false) : (List.zipWith Four.fitB a b).all id = false := by
  rw [List.all_eq_false]
  have : (List.zipWith Four.fitB a b)[k]? = some false := by rw [List.getElem?_zipWith, hx, hy]; simp [e]
  obtain ⟨h, h2⟩ := List.getElem?_eq_some_iff.1 this
  exact ⟨false, h2 ▸ List.getElem_mem h, by simp⟩
set_option maxRecDepth 100000 in
set_option maxHeartbeats 1600000 in
theorem cells_any (nm tv fv iv ov cv : Value) (ty fi : List Int) (w : World) (hg : Four.Glo w) (hT : ILst w tv ty) (hF : ILst w fv fi) (_hlt : ty.length ≤ 35184372088832) (_hlf : fi.length ≤ 35184372088832) :
    Calls Tryd.prog 33 #[.agg #[nm, tv, fv, iv, ov, cv]] w fun e w' => e = .returned (.bool (decide (ty.length = fi.length) && (decide (ty.length ≤ 1024) && (List.zipWith Four.fitB ty fi).all id))) ∧ Below w.heap.size w w' := by
  obtain ⟨ta, tb, toff, tcap, rfl, htA, htI⟩ := hT
  obtain ⟨fa, fb, foff, fcap, rfl, hfA, hfI⟩ := hF
  have HB1 : Hid (∀ A, Below w.heap.size w (w.alloc A)) := fun A => (Below.refl _ _).alloc (Nat.le_refl _) _
  generalize hR : (decide (ty.length = fi.length) && (decide (ty.length ≤ 1024) && (List.zipWith Four.fitB ty fi).all id)) = R
  by_cases h1 : ty.length = fi.length
  · by_cases h2 : ty.length ≤ 1024
    · have HR : Hid (R = (List.zipWith Four.fitB ty fi).all id) := by show _ = _; rw [← hR, decide_eq_true h1, decide_eq_true h2]; rfl
      have HTA := hide htA
      have HTI := hide htI
      rw [← h1] at hfA
      have HFA := hide hfA
      have HFI := hide hfI
      have HL := hide h1
      rw [← h1]
      obtain ⟨n, hn⟩ : ∃ n, n = ty.length := ⟨_, rfl⟩
      rw [← hn] at h2 ⊢
      have HN := hide hn
      have HG := hide hg
      have n0 : (0 : Int) ≤ (n : Int) := by omega
      have n5 : (n : Int) ≤ 1024 := by omega
      clear hn htA htI hfA hfI _hlt _hlf hR h1 hg
      go_enter Tryd.func33, Tryd.ntmps33
      go_wp2_with fail
      generalize hW0 : (w.alloc _) = w0
      have HBW : Hid (Below w.heap.size w w0) := by show Below _ _ _; rw [← hW0]; exact HB1.out _
      have q2 : Hid (w0.cell? ⟨w.heap.size, 2, none⟩ = some (.slice fa n fcap)) := by show _ = _; rw [← hW0]; simp [go_sem]
      clear hW0
      go_loopw [3, 4, 21] (fun _ _ i wr => ∃ k : Nat, k ≤ n ∧ i = .int .i64 (k : Int) ∧ Hid ((List.zipWith Four.fitB (ty.take k) (fi.take k)).all id = true ∧ wr = w0)) (fun _ _ i _ => n - (intOf i).toNat)
      case atStart => exact ⟨0, by omega, rfl, rfl, rfl⟩
      case round =>
        obtain ⟨k, hk, rfl, hh⟩ := hrel
        obtain ⟨he, hw⟩ := hh.out
        subst hw
        have HE := hide he
        clear hh he
        have k0 : (0 : Int) ≤ (k : Int) := by omega
        by_cases hlt : k < n
        · have j1 : (k : Int) < (n : Int) := by omega
          obtain ⟨x, hx⟩ : ∃ x, ty[k]? = some x := ⟨_, List.getElem?_eq_getElem (by rw [← HN.out]; exact hlt)⟩
          obtain ⟨y, hy⟩ : ∃ y, fi[k]? = some y := ⟨_, List.getElem?_eq_getElem (by rw [← HL.out, ← HN.out]; exact hlt)⟩
          obtain ⟨htb, rfl⟩ := HTA.out (by rw [← HN.out]; omega)
          obtain ⟨hfb, rfl⟩ := HFA.out (by rw [← HN.out]; omega)
          have c1 := (HBW.out.cell (p := ⟨tb, toff + k, none⟩) htb).trans (HTI.out k x hx)
          have c2 := (HBW.out.cell (p := ⟨fb, foff + k, none⟩) hfb).trans (HFI.out k y hy)
          have c3 := q2.out
          have m1 := Four.fits_any x y wr (HG.out.below HBW.out HG.out.lt)
          cases hf : Four.fitB x y with
          | false =>
            rw [hf] at m1
            have HF : Hid (R = false) := by show _ = _; rw [HR.out]; exact fit_fail hx hy hf
            clear hx hy hf
            go_wp2_with (go_at_call 43; refine m1.mono ?_; rintro e w1 ⟨rfl, rfl⟩)
            go_ret
            exact ⟨ret_b HF.out.symm, HBW.out⟩
          | true =>
            rw [hf] at m1
            have HF := hide (fit_next HE.out hx hy hf)
            clear hx hy hf
            go_wp2_with (go_at_call 43; refine m1.mono ?_; rintro e w1 ⟨rfl, rfl⟩)
            go_roundw
            case rel => exact ⟨k + 1, by omega, by go_num, HF.out, by trivial⟩
            case measure => simp [intOf]; omega
        · obtain rfl : k = n := by omega
          have HF : Hid (R = true) := by
            show _ = _
            have h := HE.out
            rw [List.take_of_length_le (by rw [← HN.out]; exact Nat.le_refl _), List.take_of_length_le (by rw [← HL.out, ← HN.out]; exact Nat.le_refl _)] at h
            rw [HR.out, h]
          clear HE HN HL HR
          go_wp2
          go_ret
          exact ⟨ret_b HF.out.symm, HBW.out⟩
    · have HR : Hid (R = false) := by show _ = _; rw [← hR, decide_eq_false h2]; simp
      clear hR htA htI hfA hfI hg
      rw [← h1]
      generalize ty.length = n at *
      have n1 : ¬ (n : Int) ≤ 1024 := by omega
      have n5 : (n : Int) ≤ 35184372088832 := by omega
      clear h1
      go_enter Tryd.func33, Tryd.ntmps33
      go_wp2
      go_ret
      exact ⟨ret_b HR.out.symm, HB1.out _⟩
  · have HR : Hid (R = false) := by show _ = _; rw [← hR, decide_eq_false h1]; rfl
    clear hR htA htI hfA hfI hg
    generalize ty.length = n at *
    generalize fi.length = n' at *
    have n1 : ¬ (n : Int) = (n' : Int) := by omega
    have n2 : ((n : Int) == (n' : Int)) = false := by simpa using n1
    clear h1
    go_enter Tryd.func33, Tryd.ntmps33
    go_wp2
    go_ret
    exact ⟨ret_b HR.out.symm, HB1.out _⟩
end Go.Proofs.YtmbgcpmapaedcaaDoor
