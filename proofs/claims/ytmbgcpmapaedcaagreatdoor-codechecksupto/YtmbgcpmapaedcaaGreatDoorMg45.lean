/- The document's Encode; CodeChecks' walk. | CodeChecks' walk, as the row asks for it. -/
import Derived.Test.YtmbgcpmapaedcaaGreatDoorRqW
import Derived.Test.YtmbgcpmapaedcaaGreatDoorRfW
import Derived.Test.YtmbgcpmapaedcaaGreatDoorCpJ
import Derived.Test.YtmbgcpmapaedcaaGreatDoorMg42
import Derived.Test.YtmbgcpmapaedcaaGreatDoorWiBytesW
import Derived.Test.YtmbgcpmapaedcaaGreatDoorMg44
namespace Go.Proofs.YtmbgcpmapaedcaaGreatDoor
open Go.RowKit
theorem chk_130 {x : Img} (h : (chkP x).2 ≠ 0) : (chkP x).2 = 130 := by
  unfold chkP at h ⊢
  cases hf : frameB x with
  | false => rfl
  | true =>
    rw [hf] at h
    simp only [if_true] at h ⊢
    cases hb : badAt x.ty x.cd.length 0 x.cd with
    | none => rw [hb] at h; exact absurd rfl h
    | some k => rfl
set_option maxRecDepth 100000 in
set_option maxHeartbeats 1600000 in
theorem rencode13_any (nm tv fv iv ov cv : Value) (x : Img) (w : World) (hx : Im w nm tv fv iv ov cv x) (hl : ImL x) (hio : x.ins.length + x.outs.length ≤ 20000000000000) :
    Calls Tryz.prog 10 #[.agg #[nm, tv, fv, iv, ov, cv]] w fun e w' => e = .returned (.tuple #[.string ⟨(encP x).1.toArray⟩, .int .i64 (encP x).2]) ∧ Below w.heap.size w w' := by
  have HB1 : Hid (∀ A, Below w.heap.size w (w.alloc A)) := fun A => (Below.refl _ _).alloc (Nat.le_refl _) _
  have m1 : Hid (∀ W, Below w.heap.size w W → Calls Tryz.prog 8 #[.agg #[nm, tv, fv, iv, ov, cv]] W fun e w' => e = .returned (.tuple #[.int .i64 (chkP x).1, .int .i64 (chkP x).2]) ∧ Below W.heap.size W w') := fun W hb => rcheck_any nm tv fv iv ov cv x W (hx.on hb) hl hio
  have HE : Hid (encP x = if (chkP x).2 = 0 then (Wi.encL (itP x), Wi.encE (itP x)) else ([], (chkP x).2)) := rfl
  have HX := hide hx
  obtain ⟨S, ta, fa, ia, oa, ca, tn, fn, in_, on_, cn, tc, fc, ic, oc, cc, rfl, rfl, rfl, rfl, rfl, rfl⟩ := im_shape hx
  by_cases h0 : (chkP x).2 = 0
  · have hf := chk_ok h0
    have hF := frame_facts hf
    have m2 : Hid (∀ W, Below w.heap.size w W → Calls Tryz.prog 25 #[.agg #[.string S, .slice ta tn tc, .slice fa fn fc, .slice ia in_ ic, .slice oa on_ oc, .slice ca cn cc]] W fun e w' => ∃ v', e = .returned v' ∧ Wi.Lst w' v' (itP x) ∧ Below W.heap.size W w') := fun W hb => ritems_any _ _ _ _ _ _ x W (HX.out.on hb) hF.ty hF.fi hF.ins hF.outs hF.c2 hF.c1 (fun i hi => may_range hF.ty hF.c2 (chk_all h0 i hi))
    have m3 : Hid (∀ W v, Wi.Lst W v (itP x) → Calls Tryz.prog 24 #[v] W fun e w' => e = .returned (.tuple #[.string ⟨(Wi.encL (itP x)).toArray⟩, .int .i64 (Wi.encE (itP x))]) ∧ Below W.heap.size W w') := fun W v hL => Wi.rencode_any v (itP x) W hL (items_fit hf)
    have HR : Hid (encP x = (Wi.encL (itP x), Wi.encE (itP x))) := by show _ = _; rw [HE.out, if_pos h0]
    rw [h0] at m1
    rw [HR.out]
    generalize (chkP x).1 = c1 at *
    generalize (⟨(Wi.encL (itP x)).toArray⟩ : ByteArray) = R at *
    generalize Wi.encE (itP x) = r at *
    clear HE h0 hf hF hx hl HR
    go_enter Tryz.func10, Tryz.ntmps10
    go_wp2_with fail
    refine (m1.out _ (HB1.out _)).mono ?_
    rintro e w1 ⟨rfl, b1⟩
    have Q1 := hide ((b1.block w.heap.size (by simp)).trans (heap_alloc_new w _))
    have B1 := hide ((HB1.out _).trans (b1.mono (by simp)))
    clear b1 m1
    obtain ⟨q0, q1, q2, q3, q4, q5, -⟩ := six Q1.out
    go_wp2_with fail
    refine (m2.out _ B1.out).mono ?_
    rintro e w2 ⟨v2, rfl, hL2, b2⟩
    have B2 := hide (B1.out.trans (b2.mono B1.out.size))
    have L2 := hide hL2
    obtain ⟨va, vb, voff, vcap, rfl, -, -⟩ := hL2
    clear b2 m2 q0 q1 q2 q3 q4 q5
    go_wp2_with fail
    refine (m3.out _ _ L2.out).mono ?_
    rintro e w3 ⟨rfl, b3⟩
    have B3 := hide (B2.out.trans (b3.mono B2.out.size))
    clear b3 m3 L2
    go_wp2
    go_ret2
    exact ⟨rfl, B3.out⟩
  · have HR : Hid (encP x = ([], 130)) := by show _ = _; rw [HE.out, if_neg h0, chk_130 h0]
    rw [HR.out]
    have hb : ((chkP x).2 == 0) = false := by simpa using h0
    have hb2 : ((chkP x).2 != 0) = true := by simpa using h0
    generalize (chkP x).1 = c1 at *
    generalize (chkP x).2 = c2 at *
    clear HE hx hl HR
    go_enter Tryz.func10, Tryz.ntmps10
    go_wp2_with fail
    refine (m1.out _ (HB1.out _)).mono ?_
    rintro e w1 ⟨rfl, b1⟩
    have B1 := hide ((HB1.out _).trans (b1.mono (by simp)))
    clear b1 m1
    go_wp2
    go_ret2
    exact ⟨rfl, B1.out⟩
theorem names13_any (w : World) : Calls Tryz.prog 11 #[] w fun e w' => e = .returned (.bool true) ∧ w' = w := by
  go_enter Tryz.func11, Tryz.ntmps11
  go_wp2
  go_ret
  exact ⟨rfl, rfl⟩
set_option maxRecDepth 100000 in
set_option maxHeartbeats 6400000 in
theorem checks_any (nm tv fv iv ov cv : Value) (x : Img) (w : World) (hg : GlC w) (hpw : Pow w) (hx : Im w nm tv fv iv ov cv x) (hcap : ∀ a n c, tv = .slice a n c → n ≤ c) (hB : ImB x 1048576) :
    Calls Tryz.prog 3 #[.agg #[nm, tv, fv, iv, ov, cv]] w fun e w' => e = .returned (.bool true) ∧ Below w.heap.size w w' := by
  have hl : ImL x := ⟨by have := hB.ty; omega, by have := hB.fi; omega, by have := hB.ins; omega, by have := hB.outs; omega, by have := hB.cd; omega⟩
  have hio : x.ins.length + x.outs.length ≤ 20000000000000 := by have := hB.ins; have := hB.outs; omega
  have HB1 : Hid (∀ A, Below w.heap.size w (w.alloc A)) := fun A => (Below.refl _ _).alloc (Nat.le_refl _) _
  have HX := hide hx
  have m6 : Hid (∀ W, Below w.heap.size w W → Calls Tryz.prog 6 #[.agg #[nm, tv, fv, iv, ov, cv]] W fun e w' => ∃ tv' fv' iv' ov' cv', e = .returned (.agg #[nm, tv', fv', iv', ov', cv']) ∧ w'.ownsRow (W.heap.size + 2) 3 1 tv' x.ty.length (intC x.ty) ∧ w'.ownsRow (W.heap.size + 2) 2 1 fv' x.fi.length (intC x.fi) ∧ w'.ownsRow (W.heap.size + 2) 3 1 iv' x.ins.length (intC x.ins) ∧ w'.ownsRow (W.heap.size + 2) 3 1 ov' x.outs.length (intC x.outs) ∧ w'.ownsRow (W.heap.size + 2) 41 4 cv' x.cd.length (inC x.cd) ∧ Below W.heap.size W w') := fun W hb => copy_any nm tv fv iv ov cv x W (hx.on hb) (by have := hB.ty; omega) (by have := hB.fi; omega) (by have := hB.ins; omega) (by have := hB.outs; omega) (by have := hB.cd; omega)
  have m7 : Hid (∀ W a b c d e f, Below w.heap.size w W → Im W a b c d e f x → (∀ p n q, b = .slice p n q → n ≤ q) → Calls Tryz.prog 7 #[.agg #[a, b, c, d, e, f]] W fun e w' => e = .returned (.tuple #[.int .i64 (chkP x).1, .int .i64 (chkP x).2]) ∧ Below W.heap.size W w') := fun W a b c d e f hb hI hc => check_any a b c d e f x W (hg.on hb hg.lt) hI hc hl
  have m8 : Hid (∀ W, Below w.heap.size w W → Calls Tryz.prog 8 #[.agg #[nm, tv, fv, iv, ov, cv]] W fun e w' => e = .returned (.tuple #[.int .i64 (chkP x).1, .int .i64 (chkP x).2]) ∧ Below W.heap.size W w') := fun W hb => rcheck_any nm tv fv iv ov cv x W (hx.on hb) hl hio
  have m9 : Hid (∀ W a b c d e f, Below w.heap.size w W → Im W a b c d e f x → (∀ p n q, b = .slice p n q → n ≤ q) → Calls Tryz.prog 9 #[.agg #[a, b, c, d, e, f]] W fun e w' => e = .returned (.tuple #[.string ⟨(encP x).1.toArray⟩, .int .i64 (encP x).2]) ∧ Below W.heap.size W w') := fun W a b c d e f hb hI hc => encode13_any a b c d e f x W (hg.on hb hg.lt) hI hc hl
  have m10 : Hid (∀ W, Below w.heap.size w W → Calls Tryz.prog 10 #[.agg #[nm, tv, fv, iv, ov, cv]] W fun e w' => e = .returned (.tuple #[.string ⟨(encP x).1.toArray⟩, .int .i64 (encP x).2]) ∧ Below W.heap.size W w') := fun W hb => rencode13_any nm tv fv iv ov cv x W (hx.on hb) hl hio
  have m12 : Hid (∀ W a b c d e f, Below w.heap.size w W → Im W a b c d e f x → Calls Tryz.prog 12 #[.agg #[a, b, c, d, e, f], .agg #[nm, tv, fv, iv, ov, cv]] W fun e w' => e = .returned (.bool true) ∧ Below W.heap.size W w') := fun W a b c d e f hb hI => image_one _ _ _ _ _ _ _ _ _ _ _ _ x W hI (hx.on hb) hl
  have m13 : Hid (∀ W, Below w.heap.size w W → Calls Tryz.prog 13 #[] W fun e w' => e = .returned (.bool true) ∧ Below W.heap.size W w') := fun W hb => works_any W (hg.on hb hg.lt) (hpw.on hb)
  have m11 : Hid (∀ W, Calls Tryz.prog 11 #[] W fun e w' => e = .returned (.bool true) ∧ w' = W) := names13_any
  obtain ⟨S, hS⟩ : ∃ S : ByteArray, S = ⟨x.name.toArray⟩ := ⟨_, rfl⟩
  have hnm : nm = .string S := by rw [hS]; exact hx.name
  have HSN := hide hS
  subst hnm
  obtain ⟨ta, tc, rfl⟩ := hx.ty.shape
  obtain ⟨fa, fc, rfl⟩ := hx.fi.shape
  obtain ⟨ia, ic, rfl⟩ := hx.ins.shape
  obtain ⟨oa, oc, rfl⟩ := hx.outs.shape
  obtain ⟨ca, cc, rfl⟩ := hx.cd.shape
  clear hS hg hpw hx hcap hB hl hio
  generalize (chkP x).1 = c1 at *
  generalize (chkP x).2 = c2 at *
  generalize (⟨(encP x).1.toArray⟩ : ByteArray) = E at *
  generalize (encP x).2 = e2 at *
  obtain ⟨tn, htn⟩ : ∃ n, n = x.ty.length := ⟨_, rfl⟩
  obtain ⟨fn, hfn⟩ : ∃ n, n = x.fi.length := ⟨_, rfl⟩
  obtain ⟨in_, hin⟩ : ∃ n, n = x.ins.length := ⟨_, rfl⟩
  obtain ⟨on_, hon⟩ : ∃ n, n = x.outs.length := ⟨_, rfl⟩
  obtain ⟨cn, hcn⟩ : ∃ n, n = x.cd.length := ⟨_, rfl⟩
  rw [← htn, ← hfn, ← hin, ← hon, ← hcn] at m6 m8 m10 m12 ⊢
  have HTN := hide htn
  have HFN := hide hfn
  have HIN := hide hin
  have HON := hide hon
  have HCN := hide hcn
  clear htn hfn hin hon hcn
  go_enter Tryz.func3, Tryz.ntmps3
  go_wp2_with fail
  refine (m6.out _ (HB1.out _)).mono ?_
  rintro e w1 ⟨tv', fv', iv', ov', cv', rfl, r1, r2, r3, r4, r5, b1⟩
  obtain ⟨ta', tc', rfl, hcp⟩ := owns_slice r1
  obtain ⟨fa', fc', rfl, -⟩ := owns_slice r2
  obtain ⟨ia', ic', rfl, -⟩ := owns_slice r3
  obtain ⟨oa', oc', rfl, -⟩ := owns_slice r4
  obtain ⟨ca', cc', rfl, -⟩ := owns_slice r5
  have HCP : Hid (∀ p n q, Value.slice ta' tn tc' = .slice p n q → n ≤ q) := fun p n q h => by injection h with _ h1 h2; omega
  have I1 : Hid (Im w1 (.string S) (.slice ta' tn tc') (.slice fa' fn fc') (.slice ia' in_ ic') (.slice oa' on_ oc') (.slice ca' cn cc') x) := by
    rw [HTN.out] at r1 ⊢
    rw [HFN.out] at r2 ⊢
    rw [HIN.out] at r3 ⊢
    rw [HON.out] at r4 ⊢
    rw [HCN.out] at r5 ⊢
    exact ⟨congrArg Value.string HSN.out, ILst.of_ownsE r1, ILst.of_ownsE r2, ILst.of_ownsE r3, ILst.of_ownsE r4, ISt.of_owns r5⟩
  have X1 := hide ((b1.block w.heap.size (by simp)).trans (heap_alloc_new w (.cells #[.string S, .slice ta tn tc, .slice fa fn fc, .slice ia in_ ic, .slice oa on_ oc, .slice ca cn cc] 26)))
  have z1 : w.heap.size < w1.heap.size := by have := b1.size; simp at this; omega
  have B1 := hide ((HB1.out _).trans (b1.mono (by simp)))
  obtain ⟨w2, hw2⟩ : ∃ w2, w2 = w1.alloc (.cells #[.string S, .slice ta' tn tc', .slice fa' fn fc', .slice ia' in_ ic', .slice oa' on_ oc', .slice ca' cn cc'] 26) := ⟨_, rfl⟩
  have X2 : Hid (w2.heap[w.heap.size]? = some (.cells #[.string S, .slice ta tn tc, .slice fa fn fc, .slice ia in_ ic, .slice oa on_ oc, .slice ca cn cc] 26 (0, 0))) := by rw [hw2]; exact (heap_alloc_old _ _ z1).trans X1.out
  have Y2 : Hid (w2.heap[w1.heap.size]? = some (.cells #[.string S, .slice ta' tn tc', .slice fa' fn fc', .slice ia' in_ ic', .slice oa' on_ oc', .slice ca' cn cc'] 26 (0, 0))) := by rw [hw2]; exact heap_alloc_new w1 _
  have I2 : Hid (Im w2 (.string S) (.slice ta' tn tc') (.slice fa' fn fc') (.slice ia' in_ ic') (.slice oa' on_ oc') (.slice ca' cn cc') x) := by rw [hw2]; exact I1.out.on ((Below.refl _ _).alloc (Nat.le_refl _) _)
  have B2 : Hid (Below w.heap.size w w2) := by rw [hw2]; exact B1.out.alloc B1.out.size _
  have HW2 := hide hw2
  obtain ⟨Z, hZ⟩ : ∃ Z, Z = w1.heap.size := ⟨_, rfl⟩
  have z2 : w.heap.size < w2.heap.size ∧ w1.heap.size < w2.heap.size := by rw [hw2]; simp; omega
  clear hw2 r1 r2 r3 r4 r5 b1 hcp m6 X1 I1 B1
  go_wp2_with fail
  rw [← HW2.out]
  clear HW2
  refine (m7.out _ _ _ _ _ _ _ B2.out I2.out HCP.out).mono ?_
  rintro e w3 ⟨rfl, b3⟩
  have X3 := hide ((b3.block w.heap.size z2.1).trans X2.out)
  have Y3 := hide ((b3.block w1.heap.size z2.2).trans Y2.out)
  have I3 := hide (I2.out.on b3)
  have B3 := hide (B2.out.trans (b3.mono B2.out.size))
  have z3 : w.heap.size < w3.heap.size ∧ w1.heap.size < w3.heap.size := by have := b3.size; omega
  clear b3 X2 Y2 I2 B2 z2 m7
  obtain ⟨q0, q1, q2, q3, q4, q5, -⟩ := six X3.out
  go_wp2_with fail
  refine (m8.out _ B3.out).mono ?_
  rintro e w4 ⟨rfl, b4⟩
  have X4 := hide ((b4.block w.heap.size z3.1).trans X3.out)
  have Y4 := hide ((b4.block w1.heap.size z3.2).trans Y3.out)
  have I4 := hide (I3.out.on b4)
  have B4 := hide (B3.out.trans (b4.mono B3.out.size))
  have z4 : w.heap.size < w4.heap.size ∧ w1.heap.size < w4.heap.size := by have := b4.size; omega
  clear b4 X3 Y3 I3 B3 z3 m8 q0 q1 q2 q3 q4 q5
  obtain ⟨p0, p1, p2, p3, p4, p5, -⟩ := six Y4.out
  go_wp2_with fail
  refine (m9.out _ _ _ _ _ _ _ B4.out I4.out HCP.out).mono ?_
  rintro e w5 ⟨rfl, b5⟩
  have X5 := hide ((b5.block w.heap.size z4.1).trans X4.out)
  have Y5 := hide ((b5.block w1.heap.size z4.2).trans Y4.out)
  have I5 := hide (I4.out.on b5)
  have B5 := hide (B4.out.trans (b5.mono B4.out.size))
  have z5 : w.heap.size < w5.heap.size ∧ w1.heap.size < w5.heap.size := by have := b5.size; omega
  clear b5 X4 Y4 I4 B4 z4 m9 p0 p1 p2 p3 p4 p5
  obtain ⟨q0, q1, q2, q3, q4, q5, -⟩ := six X5.out
  go_wp2_with fail
  refine (m10.out _ B5.out).mono ?_
  rintro e w6 ⟨rfl, b6⟩
  have X6 := hide ((b6.block w.heap.size z5.1).trans X5.out)
  have Y6 := hide ((b6.block w1.heap.size z5.2).trans Y5.out)
  have I6 := hide (I5.out.on b6)
  have B6 := hide (B5.out.trans (b6.mono B5.out.size))
  have z6 : w.heap.size < w6.heap.size ∧ w1.heap.size < w6.heap.size := by have := b6.size; omega
  clear b6 X5 Y5 I5 B5 z5 m10 q0 q1 q2 q3 q4 q5
  go_wp2_with fail
  refine (m11.out _).mono ?_
  rintro e w7 ⟨rfl, rfl⟩
  obtain ⟨q0, q1, q2, q3, q4, q5, -⟩ := six X6.out
  obtain ⟨p0, p1, p2, p3, p4, p5, -⟩ := six Y6.out
  go_wp2_with fail
  refine (m12.out _ _ _ _ _ _ _ B6.out I6.out).mono ?_
  rintro e w8 ⟨rfl, b8⟩
  have B8 := hide (B6.out.trans (b8.mono B6.out.size))
  clear b8 m12 p0 p1 p2 p3 p4 p5 q0 q1 q2 q3 q4 q5 X6 Y6 I6
  go_wp2_with fail
  refine (m13.out _ B8.out).mono ?_
  rintro e w9 ⟨rfl, b9⟩
  have B9 := hide (B8.out.trans (b9.mono B8.out.size))
  clear b9 m13
  go_wp2
  go_ret
  exact ⟨rfl, B9.out⟩
end Go.Proofs.YtmbgcpmapaedcaaGreatDoor
namespace Go.Proofs.YtmbgcpmapaedcaaGreatDoor
open Go.RowKit
theorem checks_row (nm tv fv iv ov cv : Value) (x : Img) (w : World) (hx : Im w nm tv fv iv ov cv x) (hcap : ∀ a n c, tv = .slice a n c → n ≤ c) (_ : ImL x) (_ : x.name.length ≤ 140737488351232) (_ : ∀ y ∈ x.cd, InB y) (hg : GlP w) (hB : ImB x 1048576) : Calls Tryz.prog 3 #[.agg #[nm, tv, fv, iv, ov, cv]] w fun e w' => e = .returned (.bool true) ∧ Below w.heap.size w w' :=
  checks_any nm tv fv iv ov cv x w hg.1 hg.2 hx hcap hB
end Go.Proofs.YtmbgcpmapaedcaaGreatDoor
