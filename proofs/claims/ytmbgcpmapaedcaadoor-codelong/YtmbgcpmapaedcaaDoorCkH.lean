/- code: frameMayBe, Check. -/
import Derived.Test.YtmbgcpmapaedcaaDoorCkG
namespace Go.Proofs.YtmbgcpmapaedcaaDoor
open Go.RowKit
/-- how long an image's lists may be for its check to be told -/
structure ImL (x : Img) : Prop where
  ty : x.ty.length ≤ 35184372088832
  fi : x.fi.length ≤ 35184372088832
  ins : x.ins.length ≤ 35184372088832
  outs : x.outs.length ≤ 35184372088832
  cd : x.cd.length ≤ 8796093022208
theorem ISt.shape {w : World} {v : Value} {l : List Ins} (h : ISt w v l) : ∃ a cap, v = .slice a l.length cap := by
  obtain ⟨a, b, off, cap, rfl, _⟩ := h
  exact ⟨a, cap, rfl⟩
set_option maxRecDepth 100000 in
set_option maxHeartbeats 1600000 in
theorem frame_any (nm tv fv iv ov cv : Value) (x : Img) (w : World) (hg : GlC w) (hx : Im w nm tv fv iv ov cv x) (hl : ImL x) :
    Calls Tryd.prog 16 #[.agg #[nm, tv, fv, iv, ov, cv]] w fun e w' => e = .returned (.bool (frameB x)) ∧ Below w.heap.size w w' := by
  have HR : Hid (frameB x = (Ex.nameB x.name && (cellB x && (lineB x.ty.length [] (x.ins ++ x.outs) && (decide (1 ≤ x.cd.length) && decide (x.cd.length ≤ 4096)))))) := rfl
  have HB1 : Hid (∀ A, Below w.heap.size w (w.alloc A)) := fun A => (Below.refl _ _).alloc (Nat.le_refl _) _
  have c36 : Hid (∀ W, Below w.heap.size w W → Calls Tryd.prog 32 #[nm] W fun e w' => e = .returned (.bool (Ex.nameB x.name)) ∧ w' = W) := fun W hb => by
    rw [hx.name]; exact Ex.eName_any x.name W (hg.kw.below hb (by have := hg.lt; omega))
  have c37 : Hid (∀ W, Below w.heap.size w W → Calls Tryd.prog 33 #[.agg #[nm, tv, fv, iv, ov, cv]] W fun e w' => e = .returned (.bool (cellB x)) ∧ Below W.heap.size W w') := fun W hb =>
    cells_any nm tv fv iv ov cv x.ty x.fi W (hg.glo.below hb hg.lt) (hx.ty.on hb) (hx.fi.on hb) hl.ty hl.fi
  have c38 : Hid (∀ W, cellB x = true → Below w.heap.size w W → Calls Tryd.prog 34 #[.agg #[nm, tv, fv, iv, ov, cv]] W fun e w' => e = .returned (.bool (lineB x.ty.length [] (x.ins ++ x.outs))) ∧ Below W.heap.size W w') := fun W hc hb => by
    refine lines_any nm tv fv iv ov cv x.ty x.ins x.outs W (hx.ty.on hb) ?_ (hx.ins.on hb) (hx.outs.on hb) hl.ins hl.outs
    unfold cellB at hc
    simp only [Bool.and_eq_true, decide_eq_true_eq] at hc
    exact hc.2.1
  obtain ⟨ca, ccap, rfl⟩ := hx.cd.shape
  have hcd := hl.cd
  have hnm := hx.name
  subst hnm
  clear hx hl hg
  generalize frameB x = R at *
  generalize Ex.nameB x.name = b1 at *
  generalize hb2 : cellB x = b2 at *
  generalize lineB x.ty.length [] (x.ins ++ x.outs) = b3 at *
  generalize x.cd.length = n at *
  generalize (⟨x.name.toArray⟩ : ByteArray) = S at *
  have n0 : (0 : Int) ≤ (n : Int) := by omega
  cases b1 with
  | false =>
    have HE : Hid (R = false) := by show _ = _; rw [HR.out]; rfl
    go_enter Tryd.func16, Tryd.ntmps16
    go_wp2_with (go_at_call 32; refine (c36.out _ (HB1.out _)).mono ?_; rintro e w1 ⟨rfl, rfl⟩)
    go_ret
    exact ⟨ret_b HE.out.symm, HB1.out _⟩
  | true =>
    have nxt : Hid (∀ A W, Below (w.alloc A).heap.size (w.alloc A) W → Below w.heap.size w W) := fun A W h => (HB1.out A).trans (h.mono (by simp))
    cases b2 with
    | false =>
      have HE : Hid (R = false) := by show _ = _; rw [HR.out]; rfl
      go_enter Tryd.func16, Tryd.ntmps16
      go_wp2_with (first | (go_at_call 32; refine (c36.out _ (HB1.out _)).mono ?_; rintro e w1 ⟨rfl, rfl⟩) | (go_at_call 33; refine (c37.out _ (HB1.out _)).mono ?_; rintro e w1 ⟨rfl, b1⟩; have B1 := hide (nxt.out _ _ b1); clear b1))
      go_ret
      exact ⟨ret_b HE.out.symm, B1.out⟩
    | true =>
      have c38' := hide (fun W => c38.out W rfl)
      clear c38
      cases b3 with
      | false =>
        have HE : Hid (R = false) := by show _ = _; rw [HR.out]; rfl
        go_enter Tryd.func16, Tryd.ntmps16
        go_wp2_with (first | (go_at_call 32; refine (c36.out _ (HB1.out _)).mono ?_; rintro e w1 ⟨rfl, rfl⟩) | (go_at_call 33; refine (c37.out _ (HB1.out _)).mono ?_; rintro e w1 ⟨rfl, b1⟩; have B1 := hide (nxt.out _ _ b1); have q0 := (b1.cell (p := ⟨w.heap.size, 0, none⟩) (by simp)); have q1 := (b1.cell (p := ⟨w.heap.size, 1, none⟩) (by simp)); have q2 := (b1.cell (p := ⟨w.heap.size, 2, none⟩) (by simp)); have q3 := (b1.cell (p := ⟨w.heap.size, 3, none⟩) (by simp)); have q4 := (b1.cell (p := ⟨w.heap.size, 4, none⟩) (by simp)); have q5 := (b1.cell (p := ⟨w.heap.size, 5, none⟩) (by simp)); clear b1; simp [go_sem] at q0 q1 q2 q3 q4 q5) | (go_at_call 34; refine (c38'.out _ B1.out).mono ?_; rintro e w2 ⟨rfl, b2⟩; have B2 := hide (B1.out.trans (b2.mono B1.out.size)); clear b2))
        go_ret
        exact ⟨ret_b HE.out.symm, B2.out⟩
      | true =>
        have HE : Hid (R = (decide (1 ≤ n) && decide (n ≤ 4096))) := by show _ = _; rw [HR.out]; rfl
        by_cases h1 : 1 ≤ n
        · have h1' : (1 : Int) ≤ (n : Int) := by omega
          go_enter Tryd.func16, Tryd.ntmps16
          go_wp2_with (first | (go_at_call 32; refine (c36.out _ (HB1.out _)).mono ?_; rintro e w1 ⟨rfl, rfl⟩) | (go_at_call 33; refine (c37.out _ (HB1.out _)).mono ?_; rintro e w1 ⟨rfl, b1⟩; have B1 := hide (nxt.out _ _ b1); have q0 := (b1.cell (p := ⟨w.heap.size, 0, none⟩) (by simp)); have q1 := (b1.cell (p := ⟨w.heap.size, 1, none⟩) (by simp)); have q2 := (b1.cell (p := ⟨w.heap.size, 2, none⟩) (by simp)); have q3 := (b1.cell (p := ⟨w.heap.size, 3, none⟩) (by simp)); have q4 := (b1.cell (p := ⟨w.heap.size, 4, none⟩) (by simp)); have q5 := (b1.cell (p := ⟨w.heap.size, 5, none⟩) (by simp)); have L1 : w.heap.size < w1.heap.size := (by have := b1.size; simp at this; omega); clear b1; simp [go_sem] at q0 q1 q2 q3 q4 q5) | (go_at_call 34; refine (c38'.out _ B1.out).mono ?_; rintro e w2 ⟨rfl, b2⟩; have B2 := hide (B1.out.trans (b2.mono B1.out.size)); have r5 := (b2.cell (p := ⟨w.heap.size, 5, none⟩) L1).trans q5; clear b2))
          go_ret
          exact ⟨ret_b (by rw [HE.out, decide_eq_true h1, Bool.true_and]; exact decide_eq_decide.2 (by omega)), B2.out⟩
        · have h1' : ¬ (1 : Int) ≤ (n : Int) := by omega
          go_enter Tryd.func16, Tryd.ntmps16
          go_wp2_with (first | (go_at_call 32; refine (c36.out _ (HB1.out _)).mono ?_; rintro e w1 ⟨rfl, rfl⟩) | (go_at_call 33; refine (c37.out _ (HB1.out _)).mono ?_; rintro e w1 ⟨rfl, b1⟩; have B1 := hide (nxt.out _ _ b1); have q0 := (b1.cell (p := ⟨w.heap.size, 0, none⟩) (by simp)); have q1 := (b1.cell (p := ⟨w.heap.size, 1, none⟩) (by simp)); have q2 := (b1.cell (p := ⟨w.heap.size, 2, none⟩) (by simp)); have q3 := (b1.cell (p := ⟨w.heap.size, 3, none⟩) (by simp)); have q4 := (b1.cell (p := ⟨w.heap.size, 4, none⟩) (by simp)); have q5 := (b1.cell (p := ⟨w.heap.size, 5, none⟩) (by simp)); have L1 : w.heap.size < w1.heap.size := (by have := b1.size; simp at this; omega); clear b1; simp [go_sem] at q0 q1 q2 q3 q4 q5) | (go_at_call 34; refine (c38'.out _ B1.out).mono ?_; rintro e w2 ⟨rfl, b2⟩; have B2 := hide (B1.out.trans (b2.mono B1.out.size)); have r5 := (b2.cell (p := ⟨w.heap.size, 5, none⟩) L1).trans q5; clear b2))
          go_ret
          exact ⟨ret_b (by rw [HE.out, decide_eq_false h1]; rfl), B2.out⟩
end Go.Proofs.YtmbgcpmapaedcaaDoor
