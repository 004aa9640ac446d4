/- code: cellsMayBe, frameMayBe. | code: frameMayBe, Check. | code: Check. -/
import Derived.Test.YtlckedionmgjjaaDoorMg12
namespace Go.Proofs.YtlckedionmgjjaaDoor
open Go.RowKit
/-- the tables that Check reads -/
structure GlC (w : World) : Prop where
  glo : Four.Glo w
  kw : Ex.TabAt w 0 Ex.kwTab
theorem GlC.on {w w' : World} (h : GlC w) {B : Nat} (hb : Below B w w') (hB : 1 < B) : GlC w' := ⟨h.glo.below hb hB, h.kw.below hb (by omega)⟩
theorem GlC.lt {w : World} (h : GlC w) : 1 < w.heap.size := h.glo.lt
theorem fit_next {a b : List Int} {k : Nat} {x y : Int} (h : (List.zipWith Four.fitB (a.take k) (b.take k)).all id = true) (hx : a[k]? = some x) (hy : b[k]? = some y) (e : Four.fitB x y = true) : (List.zipWith Four.fitB (a.take (k + 1)) (b.take (k + 1))).all id = true := by
  have ha : k < a.length := (List.getElem?_eq_some_iff.1 hx).1
  have hb : k < b.length := (List.getElem?_eq_some_iff.1 hy).1
  rw [List.take_add_one, List.take_add_one, hx, hy, List.zipWith_append (by rw [List.length_take, List.length_take]; omega), List.all_append, h]
  simp [e]
theorem fit_fail {a b : List Int} {k : Nat} {x y : Int} (hx : a[k]? = some x) (hy : b[k]? = some y) (e : Four.fitB x y = false) : (List.zipWith Four.fitB a b).all id = false := by
  rw [List.all_eq_false]
  have : (List.zipWith Four.fitB a b)[k]? = some false := by rw [List.getElem?_zipWith, hx, hy]; simp [e]
  obtain ⟨h, h2⟩ := List.getElem?_eq_some_iff.1 this
  exact ⟨false, h2 ▸ List.getElem_mem h, by simp⟩
set_option maxRecDepth 100000 in
set_option maxHeartbeats 1600000 in
theorem cells_any (nm tv fv iv ov cv : Value) (ty fi : List Int) (w : World) (hg : Four.Glo w) (hT : ILst w tv ty) (hF : ILst w fv fi) (_hlt : ty.length ≤ 35184372088832) (_hlf : fi.length ≤ 35184372088832) :
    Calls Tryd.prog 29 #[.agg #[nm, tv, fv, iv, ov, cv]] w fun e w' => e = .returned (.bool (decide (ty.length = fi.length) && (decide (ty.length ≤ 1024) && (List.zipWith Four.fitB ty fi).all id))) ∧ Below w.heap.size w w' := by
  obtain ⟨ta, tb, toff, tcap, rfl, htA, htI⟩ := hT
  obtain ⟨fa, fb, foff, fcap, rfl, hfA, hfI⟩ := hF
  have HB1 : Hid (∀ A, Below w.heap.size w (w.alloc A)) := fun A => (Below.refl _ _).alloc (Nat.le_refl _) _
  generalize hR : (decide (ty.length = fi.length) && (decide (ty.length ≤ 1024) && (List.zipWith Four.fitB ty fi).all id)) = R
  by_cases h1 : ty.length = fi.length
  · by_cases h2 : ty.length ≤ 1024
    · have HR : Hid (R = (List.zipWith Four.fitB ty fi).all id) := by show _ = _; rw [← hR, decide_eq_true h1, decide_eq_true h2]; rfl
      have HTA := hide htA
      have HTI := hide htI
      rw [← h1] at hfA
      have HFA := hide hfA
      have HFI := hide hfI
      have HL := hide h1
      rw [← h1]
      obtain ⟨n, hn⟩ : ∃ n, n = ty.length := ⟨_, rfl⟩
      rw [← hn] at h2 ⊢
      have HN := hide hn
      have HG := hide hg
      have n0 : (0 : Int) ≤ (n : Int) := by omega
      have n5 : (n : Int) ≤ 1024 := by omega
      clear hn htA htI hfA hfI _hlt _hlf hR h1 hg
      go_enter Tryd.func29, Tryd.ntmps29
      go_wp2_with fail
      generalize hW0 : (w.alloc _) = w0
      have HBW : Hid (Below w.heap.size w w0) := by show Below _ _ _; rw [← hW0]; exact HB1.out _
      have q2 : Hid (w0.cell? ⟨w.heap.size, 2, none⟩ = some (.slice fa n fcap)) := by show _ = _; rw [← hW0]; simp [go_sem]
      clear hW0
      go_loopw [3, 4, 21] (fun _ _ i wr => ∃ k : Nat, k ≤ n ∧ i = .int .i64 (k : Int) ∧ Hid ((List.zipWith Four.fitB (ty.take k) (fi.take k)).all id = true ∧ wr = w0)) (fun _ _ i _ => n - (intOf i).toNat)
      case atStart => exact ⟨0, by omega, rfl, rfl, rfl⟩
      case round =>
        obtain ⟨k, hk, rfl, hh⟩ := hrel
        obtain ⟨he, hw⟩ := hh.out
        subst hw
        have HE := hide he
        clear hh he
        have k0 : (0 : Int) ≤ (k : Int) := by omega
        by_cases hlt : k < n
        · have j1 : (k : Int) < (n : Int) := by omega
          obtain ⟨x, hx⟩ : ∃ x, ty[k]? = some x := ⟨_, List.getElem?_eq_getElem (by rw [← HN.out]; exact hlt)⟩
          obtain ⟨y, hy⟩ : ∃ y, fi[k]? = some y := ⟨_, List.getElem?_eq_getElem (by rw [← HL.out, ← HN.out]; exact hlt)⟩
          obtain ⟨htb, rfl⟩ := HTA.out (by rw [← HN.out]; omega)
          obtain ⟨hfb, rfl⟩ := HFA.out (by rw [← HN.out]; omega)
          have c1 := (HBW.out.cell (p := ⟨tb, toff + k, none⟩) htb).trans (HTI.out k x hx)
          have c2 := (HBW.out.cell (p := ⟨fb, foff + k, none⟩) hfb).trans (HFI.out k y hy)
          have c3 := q2.out
          have m1 := Four.fits_any x y wr (HG.out.below HBW.out HG.out.lt)
          cases hf : Four.fitB x y with
          | false =>
            rw [hf] at m1
            have HF : Hid (R = false) := by show _ = _; rw [HR.out]; exact fit_fail hx hy hf
            clear hx hy hf
            go_wp2_with (go_at_call 45; refine m1.mono ?_; rintro e w1 ⟨rfl, rfl⟩)
            go_ret
            exact ⟨ret_b HF.out.symm, HBW.out⟩
          | true =>
            rw [hf] at m1
            have HF := hide (fit_next HE.out hx hy hf)
            clear hx hy hf
            go_wp2_with (go_at_call 45; refine m1.mono ?_; rintro e w1 ⟨rfl, rfl⟩)
            go_roundw
            case rel => exact ⟨k + 1, by omega, by go_num, HF.out, by trivial⟩
            case measure => simp [intOf]; omega
        · obtain rfl : k = n := by omega
          have HF : Hid (R = true) := by
            show _ = _
            have h := HE.out
            rw [List.take_of_length_le (by rw [← HN.out]; exact Nat.le_refl _), List.take_of_length_le (by rw [← HL.out, ← HN.out]; exact Nat.le_refl _)] at h
            rw [HR.out, h]
          clear HE HN HL HR
          go_wp2
          go_ret
          exact ⟨ret_b HF.out.symm, HBW.out⟩
    · have HR : Hid (R = false) := by show _ = _; rw [← hR, decide_eq_false h2]; simp
      clear hR htA htI hfA hfI hg
      rw [← h1]
      generalize ty.length = n at *
      have n1 : ¬ (n : Int) ≤ 1024 := by omega
      have n5 : (n : Int) ≤ 35184372088832 := by omega
      clear h1
      go_enter Tryd.func29, Tryd.ntmps29
      go_wp2
      go_ret
      exact ⟨ret_b HR.out.symm, HB1.out _⟩
  · have HR : Hid (R = false) := by show _ = _; rw [← hR, decide_eq_false h1]; rfl
    clear hR htA htI hfA hfI hg
    generalize ty.length = n at *
    generalize fi.length = n' at *
    have n1 : ¬ (n : Int) = (n' : Int) := by omega
    have n2 : ((n : Int) == (n' : Int)) = false := by simpa using n1
    clear h1
    go_enter Tryd.func29, Tryd.ntmps29
    go_wp2
    go_ret
    exact ⟨ret_b HR.out.symm, HB1.out _⟩
end Go.Proofs.YtlckedionmgjjaaDoor
namespace Go.Proofs.YtlckedionmgjjaaDoor
open Go.RowKit
/-- how long an image's lists may be for its check to be told -/
structure ImL (x : Img) : Prop where
  ty : x.ty.length ≤ 35184372088832
  fi : x.fi.length ≤ 35184372088832
  ins : x.ins.length ≤ 35184372088832
  outs : x.outs.length ≤ 35184372088832
  cd : x.cd.length ≤ 8796093022208
theorem ISt.shape {w : World} {v : Value} {l : List Ins} (h : ISt w v l) : ∃ a cap, v = .slice a l.length cap := by
  obtain ⟨a, b, off, cap, rfl, _⟩ := h
  exact ⟨a, cap, rfl⟩
set_option maxRecDepth 100000 in
set_option maxHeartbeats 1600000 in
theorem frame_any (nm tv fv iv ov cv : Value) (x : Img) (w : World) (hg : GlC w) (hx : Im w nm tv fv iv ov cv x) (hl : ImL x) :
    Calls Tryd.prog 21 #[.agg #[nm, tv, fv, iv, ov, cv]] w fun e w' => e = .returned (.bool (frameB x)) ∧ Below w.heap.size w w' := by
  have HR : Hid (frameB x = (Ex.nameB x.name && (cellB x && (lineB x.ty.length [] (x.ins ++ x.outs) && (decide (1 ≤ x.cd.length) && decide (x.cd.length ≤ 4096)))))) := rfl
  have HB1 : Hid (∀ A, Below w.heap.size w (w.alloc A)) := fun A => (Below.refl _ _).alloc (Nat.le_refl _) _
  have c36 : Hid (∀ W, Below w.heap.size w W → Calls Tryd.prog 28 #[nm] W fun e w' => e = .returned (.bool (Ex.nameB x.name)) ∧ w' = W) := fun W hb => by
    rw [hx.name]; exact Ex.eName_any x.name W (hg.kw.below hb (by have := hg.lt; omega))
  have c37 : Hid (∀ W, Below w.heap.size w W → Calls Tryd.prog 29 #[.agg #[nm, tv, fv, iv, ov, cv]] W fun e w' => e = .returned (.bool (cellB x)) ∧ Below W.heap.size W w') := fun W hb =>
    cells_any nm tv fv iv ov cv x.ty x.fi W (hg.glo.below hb hg.lt) (hx.ty.on hb) (hx.fi.on hb) hl.ty hl.fi
  have c38 : Hid (∀ W, cellB x = true → Below w.heap.size w W → Calls Tryd.prog 30 #[.agg #[nm, tv, fv, iv, ov, cv]] W fun e w' => e = .returned (.bool (lineB x.ty.length [] (x.ins ++ x.outs))) ∧ Below W.heap.size W w') := fun W hc hb => by
    refine lines_any nm tv fv iv ov cv x.ty x.ins x.outs W (hx.ty.on hb) ?_ (hx.ins.on hb) (hx.outs.on hb) hl.ins hl.outs
    unfold cellB at hc
    simp only [Bool.and_eq_true, decide_eq_true_eq] at hc
    exact hc.2.1
  obtain ⟨ca, ccap, rfl⟩ := hx.cd.shape
  have hcd := hl.cd
  have hnm := hx.name
  subst hnm
  clear hx hl hg
  generalize frameB x = R at *
  generalize Ex.nameB x.name = b1 at *
  generalize hb2 : cellB x = b2 at *
  generalize lineB x.ty.length [] (x.ins ++ x.outs) = b3 at *
  generalize x.cd.length = n at *
  generalize (⟨x.name.toArray⟩ : ByteArray) = S at *
  have n0 : (0 : Int) ≤ (n : Int) := by omega
  cases b1 with
  | false =>
    have HE : Hid (R = false) := by show _ = _; rw [HR.out]; rfl
    go_enter Tryd.func21, Tryd.ntmps21
    go_wp2_with (go_at_call 28; refine (c36.out _ (HB1.out _)).mono ?_; rintro e w1 ⟨rfl, rfl⟩)
    go_ret
    exact ⟨ret_b HE.out.symm, HB1.out _⟩
  | true =>
    have nxt : Hid (∀ A W, Below (w.alloc A).heap.size (w.alloc A) W → Below w.heap.size w W) := fun A W h => (HB1.out A).trans (h.mono (by simp))
    cases b2 with
    | false =>
      have HE : Hid (R = false) := by show _ = _; rw [HR.out]; rfl
      go_enter Tryd.func21, Tryd.ntmps21
      go_wp2_with (first | (go_at_call 28; refine (c36.out _ (HB1.out _)).mono ?_; rintro e w1 ⟨rfl, rfl⟩) | (go_at_call 29; refine (c37.out _ (HB1.out _)).mono ?_; rintro e w1 ⟨rfl, b1⟩; have B1 := hide (nxt.out _ _ b1); clear b1))
      go_ret
      exact ⟨ret_b HE.out.symm, B1.out⟩
    | true =>
      have c38' := hide (fun W => c38.out W rfl)
      clear c38
      cases b3 with
      | false =>
        have HE : Hid (R = false) := by show _ = _; rw [HR.out]; rfl
        go_enter Tryd.func21, Tryd.ntmps21
        go_wp2_with (first | (go_at_call 28; refine (c36.out _ (HB1.out _)).mono ?_; rintro e w1 ⟨rfl, rfl⟩) | (go_at_call 29; refine (c37.out _ (HB1.out _)).mono ?_; rintro e w1 ⟨rfl, b1⟩; have B1 := hide (nxt.out _ _ b1); have q0 := (b1.cell (p := ⟨w.heap.size, 0, none⟩) (by simp)); have q1 := (b1.cell (p := ⟨w.heap.size, 1, none⟩) (by simp)); have q2 := (b1.cell (p := ⟨w.heap.size, 2, none⟩) (by simp)); have q3 := (b1.cell (p := ⟨w.heap.size, 3, none⟩) (by simp)); have q4 := (b1.cell (p := ⟨w.heap.size, 4, none⟩) (by simp)); have q5 := (b1.cell (p := ⟨w.heap.size, 5, none⟩) (by simp)); clear b1; simp [go_sem] at q0 q1 q2 q3 q4 q5) | (go_at_call 30; refine (c38'.out _ B1.out).mono ?_; rintro e w2 ⟨rfl, b2⟩; have B2 := hide (B1.out.trans (b2.mono B1.out.size)); clear b2))
        go_ret
        exact ⟨ret_b HE.out.symm, B2.out⟩
      | true =>
        have HE : Hid (R = (decide (1 ≤ n) && decide (n ≤ 4096))) := by show _ = _; rw [HR.out]; rfl
        by_cases h1 : 1 ≤ n
        · have h1' : (1 : Int) ≤ (n : Int) := by omega
          go_enter Tryd.func21, Tryd.ntmps21
          go_wp2_with (first | (go_at_call 28; refine (c36.out _ (HB1.out _)).mono ?_; rintro e w1 ⟨rfl, rfl⟩) | (go_at_call 29; refine (c37.out _ (HB1.out _)).mono ?_; rintro e w1 ⟨rfl, b1⟩; have B1 := hide (nxt.out _ _ b1); have q0 := (b1.cell (p := ⟨w.heap.size, 0, none⟩) (by simp)); have q1 := (b1.cell (p := ⟨w.heap.size, 1, none⟩) (by simp)); have q2 := (b1.cell (p := ⟨w.heap.size, 2, none⟩) (by simp)); have q3 := (b1.cell (p := ⟨w.heap.size, 3, none⟩) (by simp)); have q4 := (b1.cell (p := ⟨w.heap.size, 4, none⟩) (by simp)); have q5 := (b1.cell (p := ⟨w.heap.size, 5, none⟩) (by simp)); have L1 : w.heap.size < w1.heap.size := (by have := b1.size; simp at this; omega); clear b1; simp [go_sem] at q0 q1 q2 q3 q4 q5) | (go_at_call 30; refine (c38'.out _ B1.out).mono ?_; rintro e w2 ⟨rfl, b2⟩; have B2 := hide (B1.out.trans (b2.mono B1.out.size)); have r5 := (b2.cell (p := ⟨w.heap.size, 5, none⟩) L1).trans q5; clear b2))
          go_ret
          exact ⟨ret_b (by rw [HE.out, decide_eq_true h1, Bool.true_and]; exact decide_eq_decide.2 (by omega)), B2.out⟩
        · have h1' : ¬ (1 : Int) ≤ (n : Int) := by omega
          go_enter Tryd.func21, Tryd.ntmps21
          go_wp2_with (first | (go_at_call 28; refine (c36.out _ (HB1.out _)).mono ?_; rintro e w1 ⟨rfl, rfl⟩) | (go_at_call 29; refine (c37.out _ (HB1.out _)).mono ?_; rintro e w1 ⟨rfl, b1⟩; have B1 := hide (nxt.out _ _ b1); have q0 := (b1.cell (p := ⟨w.heap.size, 0, none⟩) (by simp)); have q1 := (b1.cell (p := ⟨w.heap.size, 1, none⟩) (by simp)); have q2 := (b1.cell (p := ⟨w.heap.size, 2, none⟩) (by simp)); have q3 := (b1.cell (p := ⟨w.heap.size, 3, none⟩) (by simp)); have q4 := (b1.cell (p := ⟨w.heap.size, 4, none⟩) (by simp)); have q5 := (b1.cell (p := ⟨w.heap.size, 5, none⟩) (by simp)); have L1 : w.heap.size < w1.heap.size := (by have := b1.size; simp at this; omega); clear b1; simp [go_sem] at q0 q1 q2 q3 q4 q5) | (go_at_call 30; refine (c38'.out _ B1.out).mono ?_; rintro e w2 ⟨rfl, b2⟩; have B2 := hide (B1.out.trans (b2.mono B1.out.size)); have r5 := (b2.cell (p := ⟨w.heap.size, 5, none⟩) L1).trans q5; clear b2))
          go_ret
          exact ⟨ret_b (by rw [HE.out, decide_eq_false h1]; rfl), B2.out⟩
end Go.Proofs.YtlckedionmgjjaaDoor
namespace Go.Proofs.YtlckedionmgjjaaDoor
open Go.RowKit
theorem ret_ii {a b c d : Int} (h : (a, b) = (c, d)) : Ending.returned (.tuple #[.int .i64 a, .int .i64 b]) = .returned (.tuple #[.int .i64 c, .int .i64 d]) := by
  obtain ⟨rfl, rfl⟩ := Prod.mk.inj h
  rfl
theorem bad_next {ty : List Int} {m k : Nat} {i : Ins} {r : List Ins} (h : mayI ty m i = true) : badAt ty m k (i :: r) = badAt ty m (k + 1) r := by
  show (if mayI ty m i then _ else _) = _
  rw [h]; rfl
theorem bad_here {ty : List Int} {m k : Nat} {i : Ins} {r : List Ins} (h : mayI ty m i = false) : badAt ty m k (i :: r) = some k := by
  show (if mayI ty m i then _ else _) = _
  rw [h]; rfl
set_option maxRecDepth 100000 in
set_option maxHeartbeats 1600000 in
theorem check_any (nm tv fv iv ov cv : Value) (x : Img) (w : World) (hg : GlC w) (hx : Im w nm tv fv iv ov cv x) (hcap : ∀ a n c, tv = .slice a n c → n ≤ c) (hl : ImL x) :
    Calls Tryd.prog 15 #[.agg #[nm, tv, fv, iv, ov, cv]] w fun e w' => e = .returned (.tuple #[.int .i64 (chkP x).1, .int .i64 (chkP x).2]) ∧ Below w.heap.size w w' := by
  have HB1 : Hid (∀ A, Below w.heap.size w (w.alloc A)) := fun A => (Below.refl _ _).alloc (Nat.le_refl _) _
  have nxt : Hid (∀ A W, Below (w.alloc A).heap.size (w.alloc A) W → Below w.heap.size w W) := fun A W h => (HB1.out A).trans (h.mono (by simp))
  have c16 : Hid (∀ W, Below w.heap.size w W → Calls Tryd.prog 21 #[.agg #[nm, tv, fv, iv, ov, cv]] W fun e w' => e = .returned (.bool (frameB x)) ∧ Below W.heap.size W w') := fun W hb =>
    frame_any nm tv fv iv ov cv x W (hg.on hb hg.lt) (hx.on hb) hl
  have HP : Hid (chkP x = (if frameB x then (match badAt x.ty x.cd.length 0 x.cd with | none => (0, 0) | some k => ((k : Int), 130)) else (-1, 130) : Int × Int)) := rfl
  cases hf : frameB x with
  | false =>
    rw [hf] at c16
    have HE : Hid (((-1, 130) : Int × Int) = chkP x) := by show _ = _; rw [HP.out, hf]; rfl
    clear HP hf hg hx hl hcap
    generalize chkP x = R at *
    obtain ⟨R1, R2⟩ := R
    go_enter Tryd.func15, Tryd.ntmps15
    go_wp2_with (go_at_call 21; refine (c16.out _ (HB1.out _)).mono ?_; rintro e w1 ⟨rfl, b1⟩; have B1 := hide (nxt.out _ _ b1); clear b1)
    go_ret2
    exact ⟨ret_ii HE.out, B1.out⟩
  | true =>
    rw [hf] at c16
    have HE : Hid ((match badAt x.ty x.cd.length 0 x.cd with | none => (0, 0) | some k => ((k : Int), 130) : Int × Int) = chkP x) := by show _ = _; rw [HP.out, hf]; rfl
    have hn : x.ty.length ≤ 1024 ∧ x.cd.length ≤ 4096 := by
      unfold frameB cellB at hf
      simp only [Bool.and_eq_true, decide_eq_true_eq] at hf
      exact ⟨hf.2.1.2.1, hf.2.2.2.2⟩
    have c17 : Hid (∀ W i, Below w.heap.size w W → Calls Tryd.prog 22 #[.agg #[nm, tv, fv, iv, ov, cv], inA i] W fun e w' => e = .returned (.bool (mayI x.ty x.cd.length i)) ∧ Below W.heap.size W w') := fun W i hb =>
      mayBe_any nm tv fv iv ov cv x.ty x.cd i W (hg.glo.below hb hg.lt) (hx.ty.on hb) hcap hn.1 (hx.cd.on hb)
    obtain ⟨ca, cb, coff, ccap, rfl, hcA, hcI⟩ := hx.cd
    have HCA := hide hcA
    have HCI := hide hcI
    obtain ⟨n, hN⟩ : ∃ n, n = x.cd.length := ⟨_, rfl⟩
    have hn4 : n ≤ 4096 := by omega
    rw [← hN] at HE c17 ⊢
    rw [← hN] at c16
    have HN := hide hN
    have n0 : (0 : Int) ≤ (n : Int) := by omega
    have n5 : (n : Int) ≤ 4096 := by omega
    clear HP hf hg hx hl hcap hcA hcI hN hn hn4
    generalize chkP x = R at *
    obtain ⟨R1, R2⟩ := R
    go_enter Tryd.func15, Tryd.ntmps15
    go_wp2_with (go_at_call 21; go_loud (refine (c16.out _ (HB1.out _)).mono ?_; rintro e w1 ⟨rfl, b1⟩; have B1 := hide (nxt.out _ _ b1); have q0 := (b1.cell (p := ⟨w.heap.size, 0, none⟩) (by simp)); have q1 := (b1.cell (p := ⟨w.heap.size, 1, none⟩) (by simp)); have q2 := (b1.cell (p := ⟨w.heap.size, 2, none⟩) (by simp)); have q3 := (b1.cell (p := ⟨w.heap.size, 3, none⟩) (by simp)); have q4 := (b1.cell (p := ⟨w.heap.size, 4, none⟩) (by simp)); have q5 := (b1.cell (p := ⟨w.heap.size, 5, none⟩) (by simp)); have L1 : w.heap.size < w1.heap.size := (by have := b1.size; simp at this; omega); clear b1; simp [go_sem] at q0 q1 q2 q3 q4 q5))
    have Q0 := hide q0
    have Q1 := hide q1
    have Q2 := hide q2
    have Q3 := hide q3
    have Q4 := hide q4
    have Q5 := hide q5
    clear q0 q1 q2 q3 q4 q5 c16
    go_loopw [4, 5, 12] (fun _ _ i wr => ∃ k : Nat, k ≤ n ∧ i = .int .i64 (k : Int) ∧ Hid (badAt x.ty n 0 x.cd = badAt x.ty n k (x.cd.drop k) ∧ Below w1.heap.size w1 wr)) (fun _ _ i _ => n - (intOf i).toNat)
    case atStart => exact ⟨0, by omega, rfl, rfl, Below.refl _ _⟩
    case round =>
      obtain ⟨k, hk, rfl, hh⟩ := hrel
      obtain ⟨he, hw⟩ := hh.out
      have HH := hide he
      have HW := hide hw
      clear hh he hw
      have k0 : (0 : Int) ≤ (k : Int) := by omega
      by_cases hlt : k < n
      · have j1 : (k : Int) < (n : Int) := by omega
        obtain ⟨i, hi⟩ : ∃ i, x.cd[k]? = some i := ⟨_, List.getElem?_eq_getElem (by rw [← HN.out]; exact hlt)⟩
        obtain ⟨hcb, rfl⟩ := HCA.out (by rw [← HN.out]; omega)
        have hd : x.cd.drop k = i :: x.cd.drop (k + 1) := by
          obtain ⟨h, rfl⟩ := List.getElem?_eq_some_iff.1 hi
          exact List.drop_eq_getElem_cons h
        have HD := hide hd
        obtain ⟨e0, e1, e2, e3⟩ := HCI.out k i hi
        have hcb1 : cb < w1.heap.size := Nat.lt_of_lt_of_le hcb B1.out.size
        have d0 := (HW.out.cell (p := ⟨cb, coff + k * 4, none⟩) hcb1).trans ((B1.out.cell (p := ⟨cb, coff + k * 4, none⟩) hcb).trans e0)
        have d1 := (HW.out.cell (p := ⟨cb, coff + k * 4 + 1, none⟩) hcb1).trans ((B1.out.cell (p := ⟨cb, coff + k * 4 + 1, none⟩) hcb).trans e1)
        have d2 := (HW.out.cell (p := ⟨cb, coff + k * 4 + 2, none⟩) hcb1).trans ((B1.out.cell (p := ⟨cb, coff + k * 4 + 2, none⟩) hcb).trans e2)
        have d3 := (HW.out.cell (p := ⟨cb, coff + k * 4 + 3, none⟩) hcb1).trans ((B1.out.cell (p := ⟨cb, coff + k * 4 + 3, none⟩) hcb).trans e3)
        clear e0 e1 e2 e3
        have LW : w.heap.size < wr.heap.size := by have := HW.out.size; omega
        have s0 : ∀ A, (wr.alloc A).cell? ⟨w.heap.size, 0, none⟩ = some nm := fun A => (World.cell?_alloc_lt _ _ ⟨w.heap.size, 0, none⟩ LW).trans ((HW.out.cell (p := ⟨w.heap.size, 0, none⟩) L1).trans Q0.out)
        have s1 : ∀ A, (wr.alloc A).cell? ⟨w.heap.size, 1, none⟩ = some tv := fun A => (World.cell?_alloc_lt _ _ ⟨w.heap.size, 1, none⟩ LW).trans ((HW.out.cell (p := ⟨w.heap.size, 1, none⟩) L1).trans Q1.out)
        have s2 : ∀ A, (wr.alloc A).cell? ⟨w.heap.size, 2, none⟩ = some fv := fun A => (World.cell?_alloc_lt _ _ ⟨w.heap.size, 2, none⟩ LW).trans ((HW.out.cell (p := ⟨w.heap.size, 2, none⟩) L1).trans Q2.out)
        have s3 : ∀ A, (wr.alloc A).cell? ⟨w.heap.size, 3, none⟩ = some iv := fun A => (World.cell?_alloc_lt _ _ ⟨w.heap.size, 3, none⟩ LW).trans ((HW.out.cell (p := ⟨w.heap.size, 3, none⟩) L1).trans Q3.out)
        have s4 : ∀ A, (wr.alloc A).cell? ⟨w.heap.size, 4, none⟩ = some ov := fun A => (World.cell?_alloc_lt _ _ ⟨w.heap.size, 4, none⟩ LW).trans ((HW.out.cell (p := ⟨w.heap.size, 4, none⟩) L1).trans Q4.out)
        have s5 : ∀ A, (wr.alloc A).cell? ⟨w.heap.size, 5, none⟩ = some (.slice (some ⟨cb, coff, none⟩) n ccap) := fun A => (World.cell?_alloc_lt _ _ ⟨w.heap.size, 5, none⟩ LW).trans ((HW.out.cell (p := ⟨w.heap.size, 5, none⟩) L1).trans Q5.out)
        have HWA : Hid (∀ A, Below w.heap.size w (wr.alloc A)) := fun A => (B1.out.trans (HW.out.mono B1.out.size)).alloc (B1.out.trans (HW.out.mono B1.out.size)).size A
        have HWB : Hid (∀ A, Below w1.heap.size w1 (wr.alloc A)) := fun A => HW.out.alloc HW.out.size A
        have HI := hide hi
        clear hd hi
        have m1 : Hid (∀ W, Below w.heap.size w W → Calls Tryd.prog 22 #[.agg #[nm, tv, fv, iv, ov, .slice (some ⟨cb, coff, none⟩) n ccap], .agg #[.int .i64 i.op, .int .i64 i.a, .int .i64 i.b, .int .i64 i.n]] W fun e w' => e = .returned (.bool (mayI x.ty n i)) ∧ Below W.heap.size W w') := fun W hb => c17.out W i hb
        cases hm : mayI x.ty n i with
        | true =>
          have HF : Hid (badAt x.ty n 0 x.cd = badAt x.ty n (k + 1) (x.cd.drop (k + 1))) := by show _ = _; rw [HH.out, HD.out, bad_next hm]
          rw [hm] at m1
          clear hm HH HD
          generalize i.op = p0 at *
          generalize i.a = p1 at *
          generalize i.b = p2 at *
          generalize i.n = p3 at *
          go_wp2_with (go_at_call 22; refine (m1.out _ (HWA.out _)).mono ?_; rintro e w2 ⟨rfl, b2⟩; have B2 := hide ((HWB.out _).trans (b2.mono (by have := HW.out.size; simp; omega))); clear b2)
          go_roundw
          case rel => exact ⟨k + 1, by omega, by go_num, HF.out, B2.out⟩
          case measure => simp [intOf]; omega
        | false =>
          have HF : Hid (((k : Int), 130) = (R1, R2)) := by
            show _ = _
            rw [← HE.out, HH.out, HD.out, bad_here hm]
          rw [hm] at m1
          clear hm HH HD
          generalize i.op = p0 at *
          generalize i.a = p1 at *
          generalize i.b = p2 at *
          generalize i.n = p3 at *
          go_wp2_with (go_at_call 22; refine (m1.out _ (HWA.out _)).mono ?_; rintro e w2 ⟨rfl, b2⟩; have B2 := hide ((HWA.out _).trans (b2.mono (HWA.out _).size)); clear b2)
          go_ret2
          exact ⟨ret_ii HF.out, B2.out⟩
      · obtain rfl : k = n := by omega
        have HF : Hid ((0, 0) = (R1, R2)) := by
          show _ = _
          rw [← HE.out, HH.out, List.drop_eq_nil_of_le (by rw [← HN.out]; exact Nat.le_refl _)]; rfl
        clear HH HE HN
        go_wp2
        go_ret2
        exact ⟨ret_ii HF.out, B1.out.trans (HW.out.mono B1.out.size)⟩
end Go.Proofs.YtlckedionmgjjaaDoor
