/- code: cellsMayBe, frameMayBe. -/
import Derived.Test.YtmbgcpmapaedcaaDoorCkE
import Derived.Test.YtmbgcpmapaedcaaDoorCkF
namespace Go.Proofs.YtmbgcpmapaedcaaDoor
open Go.RowKit
/-- the tables that Check reads -/
structure GlC (w : World) : Prop where
  glo : Four.Glo w
  kw : Ex.TabAt w 0 Ex.kwTab
theorem GlC.on {w w' : World} (h : GlC w) {B : Nat} (hb : Below B w w') (hB : 1 < B) : GlC w' := ⟨h.glo.below hb hB, h.kw.below hb (by omega)⟩
theorem GlC.lt {w : World} (h : GlC w) : 1 < w.heap.size := h.glo.lt
theorem fit_next {a b : List Int} {k : Nat} {x y : Int} (h : (List.zipWith Four.fitB (a.take k) (b.take k)).all id = true) (hx : a[k]? = some x) (hy : b[k]? = some y) (e : Four.fitB x y = true) : (List.zipWith Four.fitB (a.take (k + 1)) (b.take (k + 1))).all id = true := by
  have ha : k < a.length := (List.getElem?_eq_some_iff.1 hx).1
  have hb : k < b.length := (List.getElem?_eq_some_iff.1 hy).1
  rw [List.take_add_one, List.take_add_one, hx, hy, List.zipWith_append (by rw [List.length_take, List.length_take]; omega), List.all_append, h]
  simp [e]
theorem fit_fail {a b : List Int} {k : Nat} {x y : Int} (hx : a[k]? = some x) (hy : b[k]? = some y) (e : Four.fitB x y = false) : (List.zipWith Four.fitB a b).all id = false := by
  rw [List.all_eq_false]
  have : (List.zipWith Four.fitB a b)[k]? = some false := by rw [List.getElem?_zipWith, hx, hy]; simp [e]
  obtain ⟨h, h2⟩ := List.getElem?_eq_some_iff.1 this
  exact ⟨false, h2 ▸ List.getElem_mem h, by simp⟩
set_option maxRecDepth 100000 in
set_option maxHeartbeats 1600000 in
theorem cells_any (nm tv fv iv ov cv : Value) (ty fi : List Int) (w : World) (hg : Four.Glo w) (hT : ILst w tv ty) (hF : ILst w fv fi) (_hlt : ty.length ≤ 35184372088832) (_hlf : fi.length ≤ 35184372088832) :
    Calls Tryd.prog 33 #[.agg #[nm, tv, fv, iv, ov, cv]] w fun e w' => e = .returned (.bool (decide (ty.length = fi.length) && (decide (ty.length ≤ 1024) && (List.zipWith Four.fitB ty fi).all id))) ∧ Below w.heap.size w w' := by
  obtain ⟨ta, tb, toff, tcap, rfl, htA, htI⟩ := hT
  obtain ⟨fa, fb, foff, fcap, rfl, hfA, hfI⟩ := hF
  have HB1 : Hid (∀ A, Below w.heap.size w (w.alloc A)) := fun A => (Below.refl _ _).alloc (Nat.le_refl _) _
  generalize hR : (decide (ty.length = fi.length) && (decide (ty.length ≤ 1024) && (List.zipWith Four.fitB ty fi).all id)) = R
  by_cases h1 : ty.length = fi.length
  · by_cases h2 : ty.length ≤ 1024
    · have HR : Hid (R = (List.zipWith Four.fitB ty fi).all id) := by show _ = _; rw [← hR, decide_eq_true h1, decide_eq_true h2]; rfl
      have HTA := hide htA
      have HTI := hide htI
      rw [← h1] at hfA
      have HFA := hide hfA
      have HFI := hide hfI
      have HL := hide h1
      rw [← h1]
      obtain ⟨n, hn⟩ : ∃ n, n = ty.length := ⟨_, rfl⟩
      rw [← hn] at h2 ⊢
      have HN := hide hn
      have HG := hide hg
      have n0 : (0 : Int) ≤ (n : Int) := by omega
      have n5 : (n : Int) ≤ 1024 := by omega
      clear hn htA htI hfA hfI _hlt _hlf hR h1 hg
      go_enter Tryd.func33, Tryd.ntmps33
      go_wp2_with fail
      generalize hW0 : (w.alloc _) = w0
      have HBW : Hid (Below w.heap.size w w0) := by show Below _ _ _; rw [← hW0]; exact HB1.out _
      have q2 : Hid (w0.cell? ⟨w.heap.size, 2, none⟩ = some (.slice fa n fcap)) := by show _ = _; rw [← hW0]; simp [go_sem]
      clear hW0
      go_loopw [3, 4, 21] (fun _ _ i wr => ∃ k : Nat, k ≤ n ∧ i = .int .i64 (k : Int) ∧ Hid ((List.zipWith Four.fitB (ty.take k) (fi.take k)).all id = true ∧ wr = w0)) (fun _ _ i _ => n - (intOf i).toNat)
      case atStart => exact ⟨0, by omega, rfl, rfl, rfl⟩
      case round =>
        obtain ⟨k, hk, rfl, hh⟩ := hrel
        obtain ⟨he, hw⟩ := hh.out
        subst hw
        have HE := hide he
        clear hh he
        have k0 : (0 : Int) ≤ (k : Int) := by omega
        by_cases hlt : k < n
        · have j1 : (k : Int) < (n : Int) := by omega
          obtain ⟨x, hx⟩ : ∃ x, ty[k]? = some x := ⟨_, List.getElem?_eq_getElem (by rw [← HN.out]; exact hlt)⟩
          obtain ⟨y, hy⟩ : ∃ y, fi[k]? = some y := ⟨_, List.getElem?_eq_getElem (by rw [← HL.out, ← HN.out]; exact hlt)⟩
          obtain ⟨htb, rfl⟩ := HTA.out (by rw [← HN.out]; omega)
          obtain ⟨hfb, rfl⟩ := HFA.out (by rw [← HN.out]; omega)
          have c1 := (HBW.out.cell (p := ⟨tb, toff + k, none⟩) htb).trans (HTI.out k x hx)
          have c2 := (HBW.out.cell (p := ⟨fb, foff + k, none⟩) hfb).trans (HFI.out k y hy)
          have c3 := q2.out
          have m1 := Four.fits_any x y wr (HG.out.below HBW.out HG.out.lt)
          cases hf : Four.fitB x y with
          | false =>
            rw [hf] at m1
            have HF : Hid (R = false) := by show _ = _; rw [HR.out]; exact fit_fail hx hy hf
            clear hx hy hf
            go_wp2_with (go_at_call 43; refine m1.mono ?_; rintro e w1 ⟨rfl, rfl⟩)
            go_ret
            exact ⟨ret_b HF.out.symm, HBW.out⟩
          | true =>
            rw [hf] at m1
            have HF := hide (fit_next HE.out hx hy hf)
            clear hx hy hf
            go_wp2_with (go_at_call 43; refine m1.mono ?_; rintro e w1 ⟨rfl, rfl⟩)
            go_roundw
            case rel => exact ⟨k + 1, by omega, by go_num, HF.out, by trivial⟩
            case measure => simp [intOf]; omega
        · obtain rfl : k = n := by omega
          have HF : Hid (R = true) := by
            show _ = _
            have h := HE.out
            rw [List.take_of_length_le (by rw [← HN.out]; exact Nat.le_refl _), List.take_of_length_le (by rw [← HL.out, ← HN.out]; exact Nat.le_refl _)] at h
            rw [HR.out, h]
          clear HE HN HL HR
          go_wp2
          go_ret
          exact ⟨ret_b HF.out.symm, HBW.out⟩
    · have HR : Hid (R = false) := by show _ = _; rw [← hR, decide_eq_false h2]; simp
      clear hR htA htI hfA hfI hg
      rw [← h1]
      generalize ty.length = n at *
      have n1 : ¬ (n : Int) ≤ 1024 := by omega
      have n5 : (n : Int) ≤ 35184372088832 := by omega
      clear h1
      go_enter Tryd.func33, Tryd.ntmps33
      go_wp2
      go_ret
      exact ⟨ret_b HR.out.symm, HB1.out _⟩
  · have HR : Hid (R = false) := by show _ = _; rw [← hR, decide_eq_false h1]; rfl
    clear hR htA htI hfA hfI hg
    generalize ty.length = n at *
    generalize fi.length = n' at *
    have n1 : ¬ (n : Int) = (n' : Int) := by omega
    have n2 : ((n : Int) == (n' : Int)) = false := by simpa using n1
    clear h1
    go_enter Tryd.func33, Tryd.ntmps33
    go_wp2
    go_ret
    exact ⟨ret_b HR.out.symm, HB1.out _⟩
end Go.Proofs.YtmbgcpmapaedcaaDoor
