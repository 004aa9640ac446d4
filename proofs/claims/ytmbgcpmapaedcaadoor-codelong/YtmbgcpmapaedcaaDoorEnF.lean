/- CodeLong's walk. -/
import Derived.Test.YtmbgcpmapaedcaaDoorEnE
namespace Go.Proofs.YtmbgcpmapaedcaaDoor
open Go.RowKit
open Wi (It itC itsC fits bodyB oneB)
theorem enc_none {x : Img} (h : (encP x).2 ≠ 0) : (encP x).1 = [] := by
  unfold encP at h ⊢
  by_cases h0 : (chkP x).2 = 0
  · rw [if_pos h0] at h ⊢
    show (if Wi.encE (itP x) = 0 then _ else []) = []
    rw [if_neg h]
  · rw [if_neg h0]
theorem enc_some {x : Img} (h : (encP x).2 = 0) : frameB x = true ∧ (encP x).1 = Wi.bytesB (itP x) ∧ (encP x).1.length = 2 + (3 + x.name.length + 9 * (3 + 2 * x.ty.length + x.ins.length + x.outs.length) + 3 + 11 * x.cd.length) ∧ (encP x).1.length ≤ 65536 := by
  unfold encP at h ⊢
  by_cases h0 : (chkP x).2 = 0
  · rw [if_pos h0] at h ⊢
    have hf := chk_ok h0
    have e : Wi.encL (itP x) = Wi.bytesB (itP x) := by unfold Wi.encL; rw [if_pos h]
    have hl : (Wi.bytesB (itP x)).length = 2 + (bodyB (itP x)).length := by unfold Wi.bytesB; rw [List.length_append]; rfl
    refine ⟨hf, e, ?_, ?_⟩
    · show (Wi.encL (itP x)).length = _
      rw [e, hl, body_len (frame_facts hf).fi]
    · show (Wi.encL (itP x)).length ≤ _
      rw [e]
      have h' : Wi.encE (itP x) = 0 := h
      unfold Wi.encE at h'
      by_cases h1 : 1000 < (itP x).length
      · rw [if_pos h1] at h'; exact absurd h' (by decide)
      · rw [if_neg h1] at h'
        by_cases h2 : Wi.allMay (itP x) = false
        · rw [if_pos h2] at h'; exact absurd h' (by decide)
        · rw [if_neg h2] at h'
          by_cases h3 : 65536 < (Wi.bytesB (itP x)).length
          · rw [if_pos h3] at h'; exact absurd h' (by decide)
          · omega
  · rw [if_neg h0] at h
    exact absurd h h0
set_option maxRecDepth 100000 in
set_option maxHeartbeats 1600000 in
theorem long_any (nm tv fv iv ov cv : Value) (x : Img) (w : World) (hg : GlC w) (hp : Pow w) (hx : Im w nm tv fv iv ov cv x) (hcap : ∀ a n c, tv = .slice a n c → n ≤ c) (hl : ImL x) :
    Calls Tryd.prog 5 #[.agg #[nm, tv, fv, iv, ov, cv]] w fun e w' => e = .returned (.bool true) ∧ Below w.heap.size w w' := by
  have HB1 : Hid (∀ A, Below w.heap.size w (w.alloc A)) := fun A => (Below.refl _ _).alloc (Nat.le_refl _) _
  have nxt : Hid (∀ A W, Below (w.alloc A).heap.size (w.alloc A) W → Below w.heap.size w W) := fun A W h => (HB1.out A).trans (h.mono (by simp))
  have m0 : Hid (∀ W, Below w.heap.size w W → Calls Tryd.prog 8 #[] W fun e w' => e = .returned (.bool true) ∧ Below W.heap.size W w') := fun W hb => works_any W (hg.on hb hg.lt) (hp.on hb)
  have m1 : Hid (∀ W, Below w.heap.size w W → Calls Tryd.prog 11 #[.agg #[nm, tv, fv, iv, ov, cv]] W fun e w' => e = .returned (.tuple #[.string ⟨(encP x).1.toArray⟩, .int .i64 (encP x).2]) ∧ Below W.heap.size W w') := fun W hb => encode13_any nm tv fv iv ov cv x W (hg.on hb hg.lt) (hx.on hb) hcap hl
  obtain ⟨S, hS⟩ : ∃ S : ByteArray, S = ⟨x.name.toArray⟩ := ⟨_, rfl⟩
  have hnm : nm = .string S := by rw [hS]; exact hx.name
  have hsz : S.size = x.name.length := by rw [hS]; show x.name.toArray.size = _; simp
  subst hnm
  clear hS
  obtain ⟨ta, tcap, rfl⟩ := hx.ty.shape
  obtain ⟨ia, icap, rfl⟩ := hx.ins.shape
  obtain ⟨oa, ocap, rfl⟩ := hx.outs.shape
  obtain ⟨ca, ccap, rfl⟩ := hx.cd.shape
  by_cases h0 : (encP x).2 = 0
  · obtain ⟨hf, -, h1, h2⟩ := enc_some h0
    have hF := frame_facts hf
    have z1 := hF.ty
    have z2 := hF.ins
    have z3 := hF.outs
    have z4 := hF.c2
    rw [h0] at m1
    have hR : (⟨(encP x).1.toArray⟩ : ByteArray).size = (encP x).1.length := by show (encP x).1.toArray.size = _; simp
    rw [h1] at hR h2
    rw [← hsz] at hR h2
    generalize (⟨(encP x).1.toArray⟩ : ByteArray) = R at *
    generalize x.ty.length = nt at *
    generalize x.ins.length = ni at *
    generalize x.outs.length = no at *
    generalize x.cd.length = nc at *
    have HRS : Hid ((R.size : Int) = 5 + (S.size : Int) + 9 * (3 + 2 * (nt : Int) + (ni : Int) + (no : Int)) + 3 + 11 * (nc : Int)) := by show _ = _; rw [hR]; omega
    have b1 : (S.size : Int) ≤ 65536 := by omega
    have b2 : (nt : Int) ≤ 1024 := by omega
    have b3 : (ni : Int) ≤ 1024 := by omega
    have b4 : (no : Int) ≤ 1024 := by omega
    have b5 : (nc : Int) ≤ 4096 := by omega
    clear hR h1 h2 h0 hf hF z1 z2 z3 z4 hsz hg hp hx hcap hl
    go_enter Tryd.func5, Tryd.ntmps5
    go_wp2_with (first | (go_at_call 8; go_loud (refine (m0.out _ (HB1.out _)).mono ?_; rintro e w1 ⟨rfl, b1⟩; have B1 := hide (nxt.out _ _ b1); have q0 := (b1.cell (p := ⟨w.heap.size, 0, none⟩) (by simp)); have q1 := (b1.cell (p := ⟨w.heap.size, 1, none⟩) (by simp)); have q2 := (b1.cell (p := ⟨w.heap.size, 2, none⟩) (by simp)); have q3 := (b1.cell (p := ⟨w.heap.size, 3, none⟩) (by simp)); have q4 := (b1.cell (p := ⟨w.heap.size, 4, none⟩) (by simp)); have q5 := (b1.cell (p := ⟨w.heap.size, 5, none⟩) (by simp)); have L1 : w.heap.size < w1.heap.size := (by have := b1.size; simp at this; omega); clear b1; simp [go_sem] at q0 q1 q2 q3 q4 q5)) | (go_at_call 11; go_loud (refine (m1.out _ B1.out).mono ?_; rintro e w2 ⟨rfl, b2⟩; have B2 := hide (B1.out.trans (b2.mono B1.out.size)); have r0 := (b2.cell (p := ⟨w.heap.size, 0, none⟩) L1).trans q0; have r1 := (b2.cell (p := ⟨w.heap.size, 1, none⟩) L1).trans q1; have r3 := (b2.cell (p := ⟨w.heap.size, 3, none⟩) L1).trans q3; have r4 := (b2.cell (p := ⟨w.heap.size, 4, none⟩) L1).trans q4; have r5 := (b2.cell (p := ⟨w.heap.size, 5, none⟩) L1).trans q5; clear b2 q0 q1 q2 q3 q4 q5)))
    go_ret
    exact ⟨ret_b (by rw [HRS.out, beq_iff_eq]), B2.out⟩
  · have h1 := enc_none h0
    rw [h1] at m1
    have hb : ((encP x).2 == 0) = false := by simpa using h0
    generalize (encP x).2 = r at *
    clear hg hp hx hcap hl hsz
    go_enter Tryd.func5, Tryd.ntmps5
    go_wp2_with (first | (go_at_call 8; go_loud (refine (m0.out _ (HB1.out _)).mono ?_; rintro e w1 ⟨rfl, b1⟩; have B1 := hide (nxt.out _ _ b1); have q0 := (b1.cell (p := ⟨w.heap.size, 0, none⟩) (by simp)); have q1 := (b1.cell (p := ⟨w.heap.size, 1, none⟩) (by simp)); have q2 := (b1.cell (p := ⟨w.heap.size, 2, none⟩) (by simp)); have q3 := (b1.cell (p := ⟨w.heap.size, 3, none⟩) (by simp)); have q4 := (b1.cell (p := ⟨w.heap.size, 4, none⟩) (by simp)); have q5 := (b1.cell (p := ⟨w.heap.size, 5, none⟩) (by simp)); clear b1; simp [go_sem] at q0 q1 q2 q3 q4 q5)) | (go_at_call 11; go_loud (refine (m1.out _ B1.out).mono ?_; rintro e w2 ⟨rfl, b2⟩; have B2 := hide (B1.out.trans (b2.mono B1.out.size)); clear b2 q0 q1 q2 q3 q4 q5)))
    go_ret
    exact ⟨rfl, B2.out⟩
end Go.Proofs.YtmbgcpmapaedcaaDoor
