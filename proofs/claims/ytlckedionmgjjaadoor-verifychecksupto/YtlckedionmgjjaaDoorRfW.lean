/- The document's Check. -/
import Derived.Test.YtlckedionmgjjaaDoorRcW
import Derived.Test.YtlckedionmgjjaaDoorMg22
import Derived.Test.YtlckedionmgjjaaDoorMg27
import Derived.Test.YtlckedionmgjjaaDoorMg18
import Derived.Test.YtlckedionmgjjaaDoorMg14
namespace Go.Proofs.YtlckedionmgjjaaDoor
open Go.RowKit
theorem chk_no {x : Img} (h : frameB x = false) : chkP x = (-1, 130) := by unfold chkP; rw [h]; rfl
set_option maxRecDepth 100000 in
set_option maxHeartbeats 3200000 in
theorem rcheck_any (nm tv fv iv ov cv : Value) (x : Img) (w : World) (hx : Im w nm tv fv iv ov cv x) (hl : ImL x) (hio : x.ins.length + x.outs.length ≤ 20000000000000) :
    Calls Tryd.prog 25 #[.agg #[nm, tv, fv, iv, ov, cv]] w fun e w' => e = .returned (.tuple #[.int .i64 (chkP x).1, .int .i64 (chkP x).2]) ∧ Below w.heap.size w w' := by
  have HB1 : Hid (∀ A, Below w.heap.size w (w.alloc A)) := fun A => (Below.refl _ _).alloc (Nat.le_refl _) _
  obtain ⟨S, hS⟩ : ∃ S : ByteArray, S = ⟨x.name.toArray⟩ := ⟨_, rfl⟩
  have hnm : nm = .string S := by rw [hS]; exact hx.name
  have m18 : Hid (∀ W, Calls Tryd.prog 36 #[.string S] W fun e w' => e = .returned (.bool (Ex.nameB x.name)) ∧ Below W.heap.size W w') := fun W => by rw [hS]; exact Ex.qName_any x.name W
  have m19 : Hid (x.ty.length ≤ 1024 → ∀ W, Below w.heap.size w W → Calls Tryd.prog 37 #[.agg #[nm, tv, fv, iv, ov, cv]] W fun e w' => e = .returned (.bool (lineB x.ty.length [] (x.ins ++ x.outs))) ∧ Below W.heap.size W w') := fun h W hb => cells13_any nm tv fv iv ov cv x.ty x.ins x.outs W (hx.ty.on hb) h (hx.ins.on hb) (hx.outs.on hb) hio
  have m21 : Hid (x.ty.length ≤ 1024 → x.cd.length ≤ 4096 → ∀ W i, Below w.heap.size w W → Calls Tryd.prog 39 #[.agg #[nm, tv, fv, iv, ov, cv], inA i] W fun e w' => e = .returned (.bool (mayI x.ty x.cd.length i)) ∧ Below W.heap.size W w') := fun h1 h2 W i hb => rmay_any nm tv fv iv ov cv x.ty x.cd i W (hx.ty.on hb) h1 (hx.cd.on hb) h2
  have HF : Hid (frameB x = (Ex.nameB x.name && ((decide (x.ty.length = x.fi.length) && (decide (x.ty.length ≤ 1024) && (List.zipWith Four.fitB x.ty x.fi).all id)) && (lineB x.ty.length [] (x.ins ++ x.outs) && (decide (1 ≤ x.cd.length) && decide (x.cd.length ≤ 4096)))))) := rfl
  subst hnm
  clear hS
  obtain ⟨ta, tb, toff, tc, rfl, htA, htI⟩ := hx.ty
  obtain ⟨fa, fb, foff, fc, rfl, hfA, hfI⟩ := hx.fi
  obtain ⟨ia, ic, rfl⟩ := hx.ins.shape
  obtain ⟨oa, oc, rfl⟩ := hx.outs.shape
  obtain ⟨ca, cb, coff, cc, rfl, hcA, hcI⟩ := hx.cd
  have l1 := hl.ty
  have l2 := hl.fi
  have l5 := hl.cd
  have HTA := hide htA
  have HTI := hide htI
  have HFA := hide hfA
  have HFI := hide hfI
  have HCA := hide hcA
  have HCI := hide hcI
  clear hx hl htA htI hfA hfI hcA hcI
  obtain ⟨N, hN⟩ : ∃ N, N = x.ty.length := ⟨_, rfl⟩
  obtain ⟨F, hFf⟩ : ∃ F, F = x.fi.length := ⟨_, rfl⟩
  obtain ⟨C, hC⟩ : ∃ C, C = x.cd.length := ⟨_, rfl⟩
  rw [← hN, ← hFf, ← hC] at m19 m21
  rw [← hN] at l1 HF ⊢
  rw [← hFf] at l2 HF ⊢
  rw [← hC] at l5 HF ⊢
  have HNn := hide hN
  have HFn := hide hFf
  have HCn := hide hC
  clear hN hFf hC
  generalize x.ins.length = in_ at *
  generalize x.outs.length = on_ at *
  have P : Hid (frameB x = false → ((-1 : Int), (130 : Int)) = ((chkP x).1, (chkP x).2)) := fun h => by rw [chk_no h]
  have HQ : Hid (frameB x = true → (match badAt x.ty C 0 x.cd with | none => ((0 : Int), (0 : Int)) | some k => ((k : Int), 130)) = ((chkP x).1, (chkP x).2)) := fun h => by unfold chkP; rw [h, HCn.out]; rfl
  generalize (chkP x).1 = r1 at *
  generalize (chkP x).2 = r2 at *
  generalize hnb : Ex.nameB x.name = nb at *
  generalize hlb : lineB N [] (x.ins ++ x.outs) = lb at *
  cases nb with
  | false =>
    have HE : Hid (((-1 : Int), (130 : Int)) = (r1, r2)) := P.out (by rw [HF.out]; simp [])
    clear P HQ HF
    go_enter Tryd.func25, Tryd.ntmps25
    go_wp2_with fail
    refine (m18.out _).mono ?_
    rintro e w1 ⟨rfl, b1⟩
    have Q1 := hide ((b1.block w.heap.size (by simp)).trans (heap_alloc_new w _))
    have B1 := hide ((HB1.out _).trans (b1.mono (by simp)))
    have L1 : w.heap.size < w1.heap.size := by have := b1.size; simp at this; omega
    clear b1 m18
    obtain ⟨q0, q1, q2, q3, q4, q5, -⟩ := six Q1.out
    go_wp2
    go_ret2
    exact ⟨ret_ii HE.out, B1.out⟩
  | true =>
    by_cases g1 : N = F
    · subst g1
      have g1b : ((N : Int) != (N : Int)) = false := by simp
      by_cases g2 : N ≤ 1024
      · have g2b : decide (1024 < (N : Int)) = false := decide_eq_false (by omega)
        by_cases g3 : 1 ≤ C
        · have g3b : decide ((C : Int) < 1) = false := decide_eq_false (by omega)
          by_cases g4 : C ≤ 4096
          · have g4b : decide (4096 < (C : Int)) = false := decide_eq_false (by omega)
            have M19 := hide (m19.out g2)
            have M21 := hide (m21.out g2 g4)
            clear m19 m21
            cases lb with
            | false =>
              have HE : Hid (((-1 : Int), (130 : Int)) = (r1, r2)) := P.out (by rw [HF.out]; simp [])
              clear P HQ HF
              go_enter Tryd.func25, Tryd.ntmps25
              go_wp2_with fail
              refine (m18.out _).mono ?_
              rintro e w1 ⟨rfl, b1⟩
              have Q1 := hide ((b1.block w.heap.size (by simp)).trans (heap_alloc_new w _))
              have B1 := hide ((HB1.out _).trans (b1.mono (by simp)))
              have L1 : w.heap.size < w1.heap.size := by have := b1.size; simp at this; omega
              clear b1 m18
              obtain ⟨q0, q1, q2, q3, q4, q5, -⟩ := six Q1.out
              go_wp2_with fail
              refine (M19.out _ B1.out).mono ?_
              rintro e w2 ⟨rfl, b2⟩
              have Q2 := hide ((b2.block w.heap.size L1).trans Q1.out)
              have B2 := hide (B1.out.trans (b2.mono B1.out.size))
              have L2 : w.heap.size < w2.heap.size := by have := b2.size; omega
              clear b2 M19 Q1 B1 L1 q0 q1 q2 q3 q4 q5
              obtain ⟨q0, q1, q2, q3, q4, q5, -⟩ := six Q2.out
              go_wp2
              go_ret2
              exact ⟨ret_ii HE.out, B2.out⟩
            | true =>
              go_enter Tryd.func25, Tryd.ntmps25
              go_wp2_with fail
              refine (m18.out _).mono ?_
              rintro e w1 ⟨rfl, b1⟩
              have Q1 := hide ((b1.block w.heap.size (by simp)).trans (heap_alloc_new w _))
              have B1 := hide ((HB1.out _).trans (b1.mono (by simp)))
              have L1 : w.heap.size < w1.heap.size := by have := b1.size; simp at this; omega
              clear b1 m18
              obtain ⟨q0, q1, q2, q3, q4, q5, -⟩ := six Q1.out
              go_wp2_with fail
              refine (M19.out _ B1.out).mono ?_
              rintro e w2 ⟨rfl, b2⟩
              have Q2 := hide ((b2.block w.heap.size L1).trans Q1.out)
              have B2 := hide (B1.out.trans (b2.mono B1.out.size))
              have L2 : w.heap.size < w2.heap.size := by have := b2.size; omega
              clear b2 M19 Q1 B1 L1 q0 q1 q2 q3 q4 q5
              obtain ⟨q0, q1, q2, q3, q4, q5, -⟩ := six Q2.out
              have HF2 : Hid (frameB x = (List.zipWith Four.fitB x.ty x.fi).all id) := by show _ = _; rw [HF.out]; simp [g2, g3, g4]
              have HLN : Hid (x.fi.length = N) := HFn.out.symm
              clear HF HFn
              have BW : Hid (∀ d, Below w.heap.size w (w2.drewN d)) := fun d => below_drewN B2.out d
              have n1 : (N : Int) ≤ 1024 := by omega
              have c1 : (C : Int) ≤ 4096 := by omega
              have HXX := hide hnb
              clear hnb hlb q0 q1 q2 q3 q4 q5
              go_wp2_with fail
              go_loopw [4] (fun i wr => ∃ k : Nat, k ≤ N ∧ i = .int .i64 (k : Int) ∧ Hid ((List.zipWith Four.fitB (x.ty.take k) (x.fi.take k)).all id = true ∧ ∃ d, wr = w2.drewN d)) (fun i _ => N - (intOf i).toNat)
              case atStart => exact ⟨0, by omega, rfl, rfl, 0, rfl⟩
              case round =>
                obtain ⟨k, hk, rfl, hh⟩ := hrel
                obtain ⟨ha, d, rfl⟩ := hh.out
                have HA := hide ha
                clear hh ha
                have k0 : (0 : Int) ≤ (k : Int) := by omega
                by_cases hlt : k < N
                · have j1 : (k : Int) < (N : Int) := by omega
                  obtain ⟨y, hy⟩ : ∃ y, x.ty[k]? = some y := ⟨_, List.getElem?_eq_getElem (by rw [← HNn.out]; exact hlt)⟩
                  obtain ⟨z, hz⟩ : ∃ z, x.fi[k]? = some z := ⟨_, List.getElem?_eq_getElem (by rw [HLN.out]; exact hlt)⟩
                  obtain ⟨htb, hta⟩ := HTA.out (by rw [← HNn.out]; omega)
                  obtain ⟨hfb, hfa⟩ := HFA.out (by rw [HLN.out]; omega)
                  have s1 : w2.cell? ⟨w.heap.size, 1, none⟩ = some (.slice (some ⟨tb, toff, none⟩) N tc) := by rw [← hta]; exact (six Q2.out).2.1
                  have s2 : w2.cell? ⟨w.heap.size, 2, none⟩ = some (.slice (some ⟨fb, foff, none⟩) N fc) := by rw [← hfa]; exact (six Q2.out).2.2.1
                  have e1 := (B2.out.cell (p := ⟨tb, toff + k, none⟩) htb).trans (HTI.out k y hy)
                  have e2 := (B2.out.cell (p := ⟨fb, foff + k, none⟩) hfb).trans (HFI.out k z hz)
                  have m20 := fun W => Four.fitsR_any y z W
                  cases hfit : Four.fitB y z with
                  | true =>
                    rw [hfit] at m20
                    have HR := hide (fit_next HA.out hy hz hfit)
                    clear hy hz hfit hta hfa htb hfb
                    have hSS : (w2.drewN d).drew.cell? ⟨w.heap.size, 1, none⟩ = some (.slice (some ⟨tb, toff, none⟩) N tc) ∧ (w2.drewN d).drew.cell? ⟨w.heap.size, 2, none⟩ = some (.slice (some ⟨fb, foff, none⟩) N fc) ∧ (w2.drewN d).drew.cell? ⟨tb, toff + k, none⟩ = some (.int .i64 y) ∧ (w2.drewN d).drew.cell? ⟨fb, foff + k, none⟩ = some (.int .i64 z) := ⟨s1, s2, e1, e2⟩
                    go_wp2_with fail
                    refine wp_region_held_drew (S := fun W => W.cell? ⟨w.heap.size, 1, none⟩ = some (.slice (some ⟨tb, toff, none⟩) N tc) ∧ W.cell? ⟨w.heap.size, 2, none⟩ = some (.slice (some ⟨fb, foff, none⟩) N fc) ∧ W.cell? ⟨tb, toff + k, none⟩ = some (.int .i64 y) ∧ W.cell? ⟨fb, foff + k, none⟩ = some (.int .i64 z)) (by kernel_rfl) hSS (fun hSS => ?_)
                    refine tkH 0 (.pointer (some ⟨w.heap.size, 1, none⟩)) hSS ?_
                    refine tkH 1 (.slice (some ⟨tb, toff, none⟩) N tc) hSS ?_
                    refine tkH 2 (.int .i64 (k : Int)) hSS ?_
                    refine tkH 3 (.pointer (some ⟨tb, toff + k, none⟩)) hSS ?_
                    refine tkH 4 (.int .i64 y) hSS ?_
                    refine tkH 5 (.pointer (some ⟨w.heap.size, 2, none⟩)) hSS ?_
                    refine tkH 6 (.slice (some ⟨fb, foff, none⟩) N fc) hSS ?_
                    refine tkH 7 (.int .i64 (k : Int)) hSS ?_
                    refine tkH 8 (.pointer (some ⟨fb, foff + k, none⟩)) hSS ?_
                    refine tkH 9 (.int .i64 z) hSS ?_
                    try simp only [Act.put, List.setIfInBounds_toArray, List.set_cons_zero, List.set_cons_succ]
                    refine rdH 10 (fun K hK => ?_)
                    go_simp
                    refine (m20 _).mono ?_
                    rintro e w9 ⟨rfl, rfl⟩
                    refine hK.out _ _ hSS (fun hSS => ?_)
                    clear hK K
                    try simp only [Act.put, List.setIfInBounds_toArray, List.set_cons_zero, List.set_cons_succ]
                    refine rdH 11 (fun K hK => ?_)
                    go_simp
                    refine hK.out _ _ hSS (fun _ => ?_)
                    clear hK K hSS
                    try simp only [Act.put, List.setIfInBounds_toArray, List.set_cons_zero, List.set_cons_succ]
                    refine wpAnyH_done (by kernel_rfl) ?_ _
                    go_wp2
                    go_roundw
                    case rel => exact ⟨k + 1, by omega, by go_num, HR.out, d + 1, rfl⟩
                    case measure => simp [intOf]; omega
                  | false =>
                    rw [hfit] at m20
                    have HE : Hid (((-1 : Int), (130 : Int)) = (r1, r2)) := P.out (by rw [HF2.out]; exact fit_fail hy hz hfit)
                    clear hy hz hfit hta hfa htb hfb
                    have hSS : (w2.drewN d).drew.cell? ⟨w.heap.size, 1, none⟩ = some (.slice (some ⟨tb, toff, none⟩) N tc) ∧ (w2.drewN d).drew.cell? ⟨w.heap.size, 2, none⟩ = some (.slice (some ⟨fb, foff, none⟩) N fc) ∧ (w2.drewN d).drew.cell? ⟨tb, toff + k, none⟩ = some (.int .i64 y) ∧ (w2.drewN d).drew.cell? ⟨fb, foff + k, none⟩ = some (.int .i64 z) := ⟨s1, s2, e1, e2⟩
                    go_wp2_with fail
                    refine wp_region_held_drew (S := fun W => W.cell? ⟨w.heap.size, 1, none⟩ = some (.slice (some ⟨tb, toff, none⟩) N tc) ∧ W.cell? ⟨w.heap.size, 2, none⟩ = some (.slice (some ⟨fb, foff, none⟩) N fc) ∧ W.cell? ⟨tb, toff + k, none⟩ = some (.int .i64 y) ∧ W.cell? ⟨fb, foff + k, none⟩ = some (.int .i64 z)) (by kernel_rfl) hSS (fun hSS => ?_)
                    refine tkH 0 (.pointer (some ⟨w.heap.size, 1, none⟩)) hSS ?_
                    refine tkH 1 (.slice (some ⟨tb, toff, none⟩) N tc) hSS ?_
                    refine tkH 2 (.int .i64 (k : Int)) hSS ?_
                    refine tkH 3 (.pointer (some ⟨tb, toff + k, none⟩)) hSS ?_
                    refine tkH 4 (.int .i64 y) hSS ?_
                    refine tkH 5 (.pointer (some ⟨w.heap.size, 2, none⟩)) hSS ?_
                    refine tkH 6 (.slice (some ⟨fb, foff, none⟩) N fc) hSS ?_
                    refine tkH 7 (.int .i64 (k : Int)) hSS ?_
                    refine tkH 8 (.pointer (some ⟨fb, foff + k, none⟩)) hSS ?_
                    refine tkH 9 (.int .i64 z) hSS ?_
                    try simp only [Act.put, List.setIfInBounds_toArray, List.set_cons_zero, List.set_cons_succ]
                    refine rdH 10 (fun K hK => ?_)
                    go_simp
                    refine (m20 _).mono ?_
                    rintro e w9 ⟨rfl, rfl⟩
                    refine hK.out _ _ hSS (fun hSS => ?_)
                    clear hK K
                    try simp only [Act.put, List.setIfInBounds_toArray, List.set_cons_zero, List.set_cons_succ]
                    refine rdH 11 (fun K hK => ?_)
                    go_simp
                    refine hK.out _ _ hSS (fun _ => ?_)
                    clear hK K hSS
                    try simp only [Act.put, List.setIfInBounds_toArray, List.set_cons_zero, List.set_cons_succ]
                    refine wpAnyH_done (by kernel_rfl) ?_ _
                    go_wp2
                    go_ret2
                    exact ⟨ret_ii HE.out, BW.out (d + 1)⟩
                · obtain rfl : k = N := by omega
                  have HT : Hid (frameB x = true) := by
                    have h := HA.out
                    rw [List.take_of_length_le (by rw [← HNn.out]; exact Nat.le_refl _), List.take_of_length_le (by rw [HLN.out]; exact Nat.le_refl _)] at h
                    show _ = _
                    rw [HF2.out]; exact h
                  have HQ2 := hide (HQ.out HT.out)
                  have Q3 : Hid ((w2.drewN d).heap[w.heap.size]? = some (.cells #[.string S, .slice ta k tc, .slice fa k fc, .slice ia in_ ic, .slice oa on_ oc, .slice ca C cc] 26 (0, 0))) := Q2.out
                  have B3 := hide (BW.out d)
                  have L3 : w.heap.size < (w2.drewN d).heap.size := L2
                  obtain ⟨w3, hw3⟩ : ∃ w3, w3 = w2.drewN d := ⟨_, rfl⟩
                  rw [← hw3] at Q3 B3 L3 ⊢
                  clear hw3
                  obtain ⟨s0, s1, s2, s3, s4, s5, -⟩ := six Q3.out
                  clear HA HTA HTI HFA HFI P HQ HF2 HLN
                  go_wp2_with fail
                  go_loopw [5] (fun i wr => ∃ q : Nat, q ≤ C ∧ i = .int .i64 (q : Int) ∧ Hid (badAt x.ty C 0 x.cd = badAt x.ty C q (x.cd.drop q) ∧ Below w3.heap.size w3 wr)) (fun i _ => C - (intOf i).toNat)
                  case atStart => exact ⟨0, by omega, rfl, rfl, Below.refl _ _⟩
                  case round =>
                    obtain ⟨q, hq, rfl, hh⟩ := hrel
                    have HH := hide hh.out.1
                    have HW := hide hh.out.2
                    clear hh
                    have q0 : (0 : Int) ≤ (q : Int) := by omega
                    have zr := HW.out.size
                    by_cases hlq : q < C
                    · have j1 : (q : Int) < (C : Int) := by omega
                      obtain ⟨i, hi⟩ : ∃ i, x.cd[q]? = some i := ⟨_, List.getElem?_eq_getElem (by rw [← HCn.out]; exact hlq)⟩
                      obtain ⟨hcb, rfl⟩ := HCA.out (by rw [← HCn.out]; omega)
                      have hd : x.cd.drop q = i :: x.cd.drop (q + 1) := by
                        obtain ⟨h, rfl⟩ := List.getElem?_eq_some_iff.1 hi
                        exact List.drop_eq_getElem_cons h
                      have HD := hide hd
                      obtain ⟨e0, e1, e2, e3⟩ := HCI.out q i hi
                      have BD := hide ((B3.out.trans (HW.out.mono B3.out.size)).drew)
                      have QD : Hid (wr.drew.heap[w.heap.size]? = some (.cells #[.string S, .slice ta k tc, .slice fa k fc, .slice ia in_ ic, .slice oa on_ oc, .slice (some ⟨cb, coff, none⟩) C cc] 26 (0, 0))) := (HW.out.block w.heap.size L3).trans Q3.out
                      obtain ⟨t0, t1, t2, t3, t4, t5, -⟩ := six QD.out
                      have hSS : wr.drew.cell? ⟨w.heap.size, 0, none⟩ = some (.string S) ∧ wr.drew.cell? ⟨w.heap.size, 1, none⟩ = some (.slice ta k tc) ∧ wr.drew.cell? ⟨w.heap.size, 2, none⟩ = some (.slice fa k fc) ∧ wr.drew.cell? ⟨w.heap.size, 3, none⟩ = some (.slice ia in_ ic) ∧ wr.drew.cell? ⟨w.heap.size, 4, none⟩ = some (.slice oa on_ oc) ∧ wr.drew.cell? ⟨w.heap.size, 5, none⟩ = some (.slice (some ⟨cb, coff, none⟩) C cc) ∧ wr.drew.cell? ⟨cb, coff + q * 4, none⟩ = some (.int .i64 i.op) ∧ wr.drew.cell? ⟨cb, coff + q * 4 + 1, none⟩ = some (.int .i64 i.a) ∧ wr.drew.cell? ⟨cb, coff + q * 4 + 2, none⟩ = some (.int .i64 i.b) ∧ wr.drew.cell? ⟨cb, coff + q * 4 + 3, none⟩ = some (.int .i64 i.n) :=
                        ⟨t0, t1, t2, t3, t4, t5, (BD.out.cell (p := ⟨cb, coff + q * 4, none⟩) hcb).trans e0, (BD.out.cell (p := ⟨cb, coff + q * 4 + 1, none⟩) hcb).trans e1, (BD.out.cell (p := ⟨cb, coff + q * 4 + 2, none⟩) hcb).trans e2, (BD.out.cell (p := ⟨cb, coff + q * 4 + 3, none⟩) hcb).trans e3⟩
                      have c5 : wr.cell? ⟨w.heap.size, 5, none⟩ = some (.slice (some ⟨cb, coff, none⟩) C cc) := t5
                      have MC := hide (M21.out wr.drew i BD.out)
                      have HI := hide hi
                      clear t0 t1 t2 t3 t4 t5 e0 e1 e2 e3 hd hi s0 s1 s2 s3 s4 s5
                      unfold inA at MC
                      cases hm : mayI x.ty C i with
                      | true =>
                        have HF3 : Hid (badAt x.ty C 0 x.cd = badAt x.ty C (q + 1) (x.cd.drop (q + 1))) := by show _ = _; rw [HH.out, HD.out, bad_next hm]
                        rw [hm] at MC
                        clear hm HH HD
                        generalize i.op = p0 at *
                        generalize i.a = p1 at *
                        generalize i.b = p2 at *
                        generalize i.n = p3 at *
                        go_wp2_with fail
                        refine wp_region_held_drew (S := fun W => W.cell? ⟨w.heap.size, 0, none⟩ = some (.string S) ∧ W.cell? ⟨w.heap.size, 1, none⟩ = some (.slice ta k tc) ∧ W.cell? ⟨w.heap.size, 2, none⟩ = some (.slice fa k fc) ∧ W.cell? ⟨w.heap.size, 3, none⟩ = some (.slice ia in_ ic) ∧ W.cell? ⟨w.heap.size, 4, none⟩ = some (.slice oa on_ oc) ∧ W.cell? ⟨w.heap.size, 5, none⟩ = some (.slice (some ⟨cb, coff, none⟩) C cc) ∧ W.cell? ⟨cb, coff + q * 4, none⟩ = some (.int .i64 p0) ∧ W.cell? ⟨cb, coff + q * 4 + 1, none⟩ = some (.int .i64 p1) ∧ W.cell? ⟨cb, coff + q * 4 + 2, none⟩ = some (.int .i64 p2) ∧ W.cell? ⟨cb, coff + q * 4 + 3, none⟩ = some (.int .i64 p3)) (by kernel_rfl) hSS (fun hSS => ?_)
                        refine tkH 0 (.agg #[.string S, .slice ta k tc, .slice fa k fc, .slice ia in_ ic, .slice oa on_ oc, .slice (some ⟨cb, coff, none⟩) C cc]) hSS ?_
                        refine tkH 1 (.pointer (some ⟨w.heap.size, 5, none⟩)) hSS ?_
                        refine tkH 2 (.slice (some ⟨cb, coff, none⟩) C cc) hSS ?_
                        refine tkH 3 (.int .i64 (q : Int)) hSS ?_
                        refine tkH 4 (.pointer (some ⟨cb, coff + q * 4, none⟩)) hSS ?_
                        refine tkH 5 (.agg #[.int .i64 p0, .int .i64 p1, .int .i64 p2, .int .i64 p3]) hSS ?_
                        try simp only [Act.put, List.setIfInBounds_toArray, List.set_cons_zero, List.set_cons_succ]
                        refine rdH 6 (fun K hK => ?_)
                        go_simp
                        refine MC.out.mono ?_
                        rintro e w9 ⟨rfl, b9⟩
                        have hS9 : w9.cell? ⟨w.heap.size, 0, none⟩ = some (.string S) ∧ w9.cell? ⟨w.heap.size, 1, none⟩ = some (.slice ta k tc) ∧ w9.cell? ⟨w.heap.size, 2, none⟩ = some (.slice fa k fc) ∧ w9.cell? ⟨w.heap.size, 3, none⟩ = some (.slice ia in_ ic) ∧ w9.cell? ⟨w.heap.size, 4, none⟩ = some (.slice oa on_ oc) ∧ w9.cell? ⟨w.heap.size, 5, none⟩ = some (.slice (some ⟨cb, coff, none⟩) C cc) ∧ w9.cell? ⟨cb, coff + q * 4, none⟩ = some (.int .i64 p0) ∧ w9.cell? ⟨cb, coff + q * 4 + 1, none⟩ = some (.int .i64 p1) ∧ w9.cell? ⟨cb, coff + q * 4 + 2, none⟩ = some (.int .i64 p2) ∧ w9.cell? ⟨cb, coff + q * 4 + 3, none⟩ = some (.int .i64 p3) := by
                          have e : ∀ b o, b < wr.drew.heap.size → w9.cell? ⟨b, o, none⟩ = wr.drew.cell? ⟨b, o, none⟩ := fun b o h => b9.cell (p := ⟨b, o, none⟩) h
                          have hz : w.heap.size < wr.drew.heap.size := by show w.heap.size < wr.heap.size; omega
                          have hc9 : cb < wr.drew.heap.size := Nat.lt_of_lt_of_le hcb BD.out.size
                          rw [e _ _ hz, e _ _ hz, e _ _ hz, e _ _ hz, e _ _ hz, e _ _ hz, e _ _ hc9, e _ _ hc9, e _ _ hc9, e _ _ hc9]; exact hSS
                        refine hK.out _ _ hS9 (fun _ => ?_)
                        clear hK K
                        try simp only [Act.put, List.setIfInBounds_toArray, List.set_cons_zero, List.set_cons_succ]
                        refine rdH 7 (fun K hK => ?_)
                        go_simp
                        refine hK.out _ _ hS9 (fun _ => ?_)
                        clear hK K hSS hS9 c5
                        try simp only [Act.put, List.setIfInBounds_toArray, List.set_cons_zero, List.set_cons_succ]
                        refine wpAnyH_done (by kernel_rfl) ?_ _
                        go_wp2
                        go_roundw
                        case rel => exact ⟨q + 1, by omega, by go_num, HF3.out, HW.out.trans ((Below.drew (Below.refl w3.heap.size wr)).trans (b9.mono zr))⟩
                        case measure => simp [intOf]; omega
                      | false =>
                        have HF3 : Hid (((q : Int), (130 : Int)) = (r1, r2)) := by show _ = _; rw [← HQ2.out, HH.out, HD.out, bad_here hm]
                        rw [hm] at MC
                        clear hm HH HD
                        generalize i.op = p0 at *
                        generalize i.a = p1 at *
                        generalize i.b = p2 at *
                        generalize i.n = p3 at *
                        go_wp2_with fail
                        refine wp_region_held_drew (S := fun W => W.cell? ⟨w.heap.size, 0, none⟩ = some (.string S) ∧ W.cell? ⟨w.heap.size, 1, none⟩ = some (.slice ta k tc) ∧ W.cell? ⟨w.heap.size, 2, none⟩ = some (.slice fa k fc) ∧ W.cell? ⟨w.heap.size, 3, none⟩ = some (.slice ia in_ ic) ∧ W.cell? ⟨w.heap.size, 4, none⟩ = some (.slice oa on_ oc) ∧ W.cell? ⟨w.heap.size, 5, none⟩ = some (.slice (some ⟨cb, coff, none⟩) C cc) ∧ W.cell? ⟨cb, coff + q * 4, none⟩ = some (.int .i64 p0) ∧ W.cell? ⟨cb, coff + q * 4 + 1, none⟩ = some (.int .i64 p1) ∧ W.cell? ⟨cb, coff + q * 4 + 2, none⟩ = some (.int .i64 p2) ∧ W.cell? ⟨cb, coff + q * 4 + 3, none⟩ = some (.int .i64 p3)) (by kernel_rfl) hSS (fun hSS => ?_)
                        refine tkH 0 (.agg #[.string S, .slice ta k tc, .slice fa k fc, .slice ia in_ ic, .slice oa on_ oc, .slice (some ⟨cb, coff, none⟩) C cc]) hSS ?_
                        refine tkH 1 (.pointer (some ⟨w.heap.size, 5, none⟩)) hSS ?_
                        refine tkH 2 (.slice (some ⟨cb, coff, none⟩) C cc) hSS ?_
                        refine tkH 3 (.int .i64 (q : Int)) hSS ?_
                        refine tkH 4 (.pointer (some ⟨cb, coff + q * 4, none⟩)) hSS ?_
                        refine tkH 5 (.agg #[.int .i64 p0, .int .i64 p1, .int .i64 p2, .int .i64 p3]) hSS ?_
                        try simp only [Act.put, List.setIfInBounds_toArray, List.set_cons_zero, List.set_cons_succ]
                        refine rdH 6 (fun K hK => ?_)
                        go_simp
                        refine MC.out.mono ?_
                        rintro e w9 ⟨rfl, b9⟩
                        have hS9 : w9.cell? ⟨w.heap.size, 0, none⟩ = some (.string S) ∧ w9.cell? ⟨w.heap.size, 1, none⟩ = some (.slice ta k tc) ∧ w9.cell? ⟨w.heap.size, 2, none⟩ = some (.slice fa k fc) ∧ w9.cell? ⟨w.heap.size, 3, none⟩ = some (.slice ia in_ ic) ∧ w9.cell? ⟨w.heap.size, 4, none⟩ = some (.slice oa on_ oc) ∧ w9.cell? ⟨w.heap.size, 5, none⟩ = some (.slice (some ⟨cb, coff, none⟩) C cc) ∧ w9.cell? ⟨cb, coff + q * 4, none⟩ = some (.int .i64 p0) ∧ w9.cell? ⟨cb, coff + q * 4 + 1, none⟩ = some (.int .i64 p1) ∧ w9.cell? ⟨cb, coff + q * 4 + 2, none⟩ = some (.int .i64 p2) ∧ w9.cell? ⟨cb, coff + q * 4 + 3, none⟩ = some (.int .i64 p3) := by
                          have e : ∀ b o, b < wr.drew.heap.size → w9.cell? ⟨b, o, none⟩ = wr.drew.cell? ⟨b, o, none⟩ := fun b o h => b9.cell (p := ⟨b, o, none⟩) h
                          have hz : w.heap.size < wr.drew.heap.size := by show w.heap.size < wr.heap.size; omega
                          have hc9 : cb < wr.drew.heap.size := Nat.lt_of_lt_of_le hcb BD.out.size
                          rw [e _ _ hz, e _ _ hz, e _ _ hz, e _ _ hz, e _ _ hz, e _ _ hz, e _ _ hc9, e _ _ hc9, e _ _ hc9, e _ _ hc9]; exact hSS
                        refine hK.out _ _ hS9 (fun _ => ?_)
                        clear hK K
                        try simp only [Act.put, List.setIfInBounds_toArray, List.set_cons_zero, List.set_cons_succ]
                        refine rdH 7 (fun K hK => ?_)
                        go_simp
                        refine hK.out _ _ hS9 (fun _ => ?_)
                        clear hK K hSS hS9 c5
                        try simp only [Act.put, List.setIfInBounds_toArray, List.set_cons_zero, List.set_cons_succ]
                        refine wpAnyH_done (by kernel_rfl) ?_ _
                        go_wp2
                        go_ret2
                        exact ⟨ret_ii HF3.out, BD.out.trans (b9.mono BD.out.size)⟩
                    · obtain rfl : q = C := by omega
                      have HF3 : Hid (((0 : Int), (0 : Int)) = (r1, r2)) := by
                        show _ = _
                        rw [← HQ2.out, HH.out, List.drop_eq_nil_of_le (by rw [← HCn.out]; exact Nat.le_refl _)]; rfl
                      have c5 : wr.cell? ⟨w.heap.size, 5, none⟩ = some (.slice ca q cc) := (HW.out.cell (p := ⟨w.heap.size, 5, none⟩) L3).trans s5
                      clear HH HQ2 s0 s1 s2 s3 s4 s5
                      go_wp2
                      go_ret2
                      exact ⟨ret_ii HF3.out, B3.out.trans (HW.out.mono B3.out.size)⟩
          · have g4b : decide (4096 < (C : Int)) = true := decide_eq_true (by omega)
            have HE : Hid (((-1 : Int), (130 : Int)) = (r1, r2)) := P.out (by rw [HF.out]; simp [g4])
            clear P HQ HF
            go_enter Tryd.func25, Tryd.ntmps25
            go_wp2_with fail
            refine (m18.out _).mono ?_
            rintro e w1 ⟨rfl, b1⟩
            have Q1 := hide ((b1.block w.heap.size (by simp)).trans (heap_alloc_new w _))
            have B1 := hide ((HB1.out _).trans (b1.mono (by simp)))
            have L1 : w.heap.size < w1.heap.size := by have := b1.size; simp at this; omega
            clear b1 m18
            obtain ⟨q0, q1, q2, q3, q4, q5, -⟩ := six Q1.out
            go_wp2
            go_ret2
            exact ⟨ret_ii HE.out, B1.out⟩
        · have g3b : decide ((C : Int) < 1) = true := decide_eq_true (by omega)
          have HE : Hid (((-1 : Int), (130 : Int)) = (r1, r2)) := P.out (by rw [HF.out]; simp [g3])
          clear P HQ HF
          go_enter Tryd.func25, Tryd.ntmps25
          go_wp2_with fail
          refine (m18.out _).mono ?_
          rintro e w1 ⟨rfl, b1⟩
          have Q1 := hide ((b1.block w.heap.size (by simp)).trans (heap_alloc_new w _))
          have B1 := hide ((HB1.out _).trans (b1.mono (by simp)))
          have L1 : w.heap.size < w1.heap.size := by have := b1.size; simp at this; omega
          clear b1 m18
          obtain ⟨q0, q1, q2, q3, q4, q5, -⟩ := six Q1.out
          go_wp2
          go_ret2
          exact ⟨ret_ii HE.out, B1.out⟩
      · have g2b : decide (1024 < (N : Int)) = true := decide_eq_true (by omega)
        have HE : Hid (((-1 : Int), (130 : Int)) = (r1, r2)) := P.out (by rw [HF.out]; simp [g2])
        clear P HQ HF
        go_enter Tryd.func25, Tryd.ntmps25
        go_wp2_with fail
        refine (m18.out _).mono ?_
        rintro e w1 ⟨rfl, b1⟩
        have Q1 := hide ((b1.block w.heap.size (by simp)).trans (heap_alloc_new w _))
        have B1 := hide ((HB1.out _).trans (b1.mono (by simp)))
        have L1 : w.heap.size < w1.heap.size := by have := b1.size; simp at this; omega
        clear b1 m18
        obtain ⟨q0, q1, q2, q3, q4, q5, -⟩ := six Q1.out
        go_wp2
        go_ret2
        exact ⟨ret_ii HE.out, B1.out⟩
    · have g1b : ((N : Int) != (F : Int)) = true := by simp; omega
      have HE : Hid (((-1 : Int), (130 : Int)) = (r1, r2)) := P.out (by rw [HF.out]; simp [g1])
      clear P HQ HF
      go_enter Tryd.func25, Tryd.ntmps25
      go_wp2_with fail
      refine (m18.out _).mono ?_
      rintro e w1 ⟨rfl, b1⟩
      have Q1 := hide ((b1.block w.heap.size (by simp)).trans (heap_alloc_new w _))
      have B1 := hide ((HB1.out _).trans (b1.mono (by simp)))
      have L1 : w.heap.size < w1.heap.size := by have := b1.size; simp at this; omega
      clear b1 m18
      obtain ⟨q0, q1, q2, q3, q4, q5, -⟩ := six Q1.out
      go_wp2
      go_ret2
      exact ⟨ret_ii HE.out, B1.out⟩
end Go.Proofs.YtlckedionmgjjaaDoor
