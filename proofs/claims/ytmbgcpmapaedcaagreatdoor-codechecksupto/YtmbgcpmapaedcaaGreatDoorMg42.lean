/- CodeBack's walk. | The contract of the document's One. -/
import Derived.Test.YtmbgcpmapaedcaaGreatDoorDeP
import Derived.Test.YtmbgcpmapaedcaaGreatDoorSaI
import Derived.Test.YtmbgcpmapaedcaaGreatDoorMg13
import Derived.Test.YtmbgcpmapaedcaaGreatDoorMg20
namespace Go.Proofs.YtmbgcpmapaedcaaGreatDoor
open Go.RowKit
/-- the second half: what is decoded is encoded as just those bytes -/
structure GlZ (w : World) : Prop where
  c : GlC w
  p : Pow w
  e : Wi.Glo w
theorem GlZ.on {w w' : World} (h : GlZ w) (hb : Below w.heap.size w w') : GlZ w' := ⟨h.c.on hb h.c.lt, h.p.on hb, h.e.below hb h.e.lt⟩
theorem enc_len {x : Img} : (encP x).1.length ≤ 65536 := by
  by_cases h : (encP x).2 = 0
  · obtain ⟨-, he, hE⟩ := enc_chk h
    rw [he]
    exact (Wi.encE_zero hE).2.2
  · unfold encP at h ⊢
    by_cases h0 : (chkP x).2 = 0
    · rw [if_pos h0] at h ⊢
      show (Wi.encL (itP x)).length ≤ _
      unfold Wi.encL
      rw [if_neg h]; exact Nat.zero_le _
    · rw [if_neg h0]; exact Nat.zero_le _
theorem dec_L (b : List UInt8) : ImL (decP b).1 := by
  rcases enc_dec13 b with ⟨-, h⟩ | h
  · obtain ⟨hc, -, -⟩ := enc_chk (by rw [h])
    have hF := frame_facts (chk_ok hc)
    exact ⟨by have := hF.ty; omega, by have := hF.ty; have := hF.fi; omega, by have := hF.ins; omega, by have := hF.outs; omega, by have := hF.c2; omega⟩
  · rw [h]
    exact ⟨Nat.zero_le _, Nat.zero_le _, Nat.zero_le _, Nat.zero_le _, Nat.zero_le _⟩
theorem im_shape {w : World} {nm tv fv iv ov cv : Value} {x : Img} (h : Im w nm tv fv iv ov cv x) : ∃ (S : ByteArray) (ta fa ia oa ca : Option Addr) (tn fn in_ on_ cn tc fc ic oc cc : Nat), nm = .string S ∧ tv = .slice ta tn tc ∧ fv = .slice fa fn fc ∧ iv = .slice ia in_ ic ∧ ov = .slice oa on_ oc ∧ cv = .slice ca cn cc := by
  obtain ⟨ta, tc, rfl⟩ := h.ty.shape
  obtain ⟨fa, fc, rfl⟩ := h.fi.shape
  obtain ⟨ia, ic, rfl⟩ := h.ins.shape
  obtain ⟨oa, oc, rfl⟩ := h.outs.shape
  obtain ⟨ca, cc, rfl⟩ := h.cd.shape
  exact ⟨_, ta, fa, ia, oa, ca, _, _, _, _, _, tc, fc, ic, oc, cc, h.name, rfl, rfl, rfl, rfl, rfl⟩
set_option maxRecDepth 100000 in
set_option maxHeartbeats 3200000 in
theorem back_any (nm tv fv iv ov cv : Value) (x : Img) (s : ByteArray) (w : World) (hg : GlZ w) (hx : Im w nm tv fv iv ov cv x) (hcap : ∀ a n c, tv = .slice a n c → n ≤ c) (hl : ImL x) (hs : s.size ≤ 140737488355328) :
    Calls Tryz.prog 5 #[.agg #[nm, tv, fv, iv, ov, cv], .string s] w fun e w' => e = .returned (.bool true) ∧ Below w.heap.size w w' := by
  have HB1 : Hid (∀ A, Below w.heap.size w (w.alloc A)) := fun A => (Below.refl _ _).alloc (Nat.le_refl _) _
  have m0 : Hid (∀ W, Below w.heap.size w W → Calls Tryz.prog 13 #[] W fun e w' => e = .returned (.bool true) ∧ Below W.heap.size W w') := fun W hb => works_any W (hg.on hb).c (hg.on hb).p
  have m1 : Hid (∀ W, Below w.heap.size w W → Calls Tryz.prog 9 #[.agg #[nm, tv, fv, iv, ov, cv]] W fun e w' => e = .returned (.tuple #[.string ⟨(encP x).1.toArray⟩, .int .i64 (encP x).2]) ∧ Below W.heap.size W w') := fun W hb => encode13_any nm tv fv iv ov cv x W (hg.on hb).c (hx.on hb) hcap hl
  have m2 : Hid ((encP x).2 = 0 → ∀ W, Below w.heap.size w W → Calls Tryz.prog 14 #[.string ⟨(encP x).1.toArray⟩] W (DecQ x 0 W)) := fun h W hb => by
    have h1 := decode13_any ⟨(encP x).1.toArray⟩ (by rw [Wi.list_size]; have := enc_len (x := x); omega) W (hg.on hb).c (hg.on hb).e
    rw [show (⟨(encP x).1.toArray⟩ : ByteArray).data.toList = (encP x).1 from rfl, dec_enc13 h] at h1
    exact h1
  have m3 : Hid (∀ W nm' tv' fv' iv' ov' cv', Below w.heap.size w W → Im W nm' tv' fv' iv' ov' cv' x → Calls Tryz.prog 12 #[.agg #[nm, tv, fv, iv, ov, cv], .agg #[nm', tv', fv', iv', ov', cv']] W fun e w' => e = .returned (.bool true) ∧ Below W.heap.size W w') := fun W nm' tv' fv' iv' ov' cv' hb hI => image_one _ _ _ _ _ _ _ _ _ _ _ _ x W (hx.on hb) hI hl
  have m4 : Hid (∀ W, Below w.heap.size w W → Calls Tryz.prog 14 #[.string s] W (DecQ (decP s.data.toList).1 (decP s.data.toList).2 W)) := fun W hb => decode13_any s hs W (hg.on hb).c (hg.on hb).e
  have m5 : Hid (∀ W nm' tv' fv' iv' ov' cv', Below w.heap.size w W → Im W nm' tv' fv' iv' ov' cv' (decP s.data.toList).1 → (∀ a n c, tv' = .slice a n c → n ≤ c) → Calls Tryz.prog 9 #[.agg #[nm', tv', fv', iv', ov', cv']] W fun e w' => e = .returned (.tuple #[.string ⟨(encP (decP s.data.toList).1).1.toArray⟩, .int .i64 (encP (decP s.data.toList).1).2]) ∧ Below W.heap.size W w') := fun W nm' tv' fv' iv' ov' cv' hb hI hc => encode13_any _ _ _ _ _ _ _ W (hg.on hb).c hI hc (dec_L _)
  have HE := hide (enc_dec13 s.data.toList)
  have HS : Hid ((⟨s.data.toList.toArray⟩ : ByteArray) = s) := (Wi.of_list s _ rfl).symm
  have HN : Hid ((encP x).2 ≠ 0 → (encP x).1 = []) := fun h => by
    unfold encP at h ⊢
    by_cases h0 : (chkP x).2 = 0
    · rw [if_pos h0] at h ⊢
      show (Wi.encL (itP x)) = []
      unfold Wi.encL
      rw [if_neg h]
    · rw [if_neg h0]
  obtain ⟨S, hS⟩ : ∃ S : ByteArray, S = ⟨x.name.toArray⟩ := ⟨_, rfl⟩
  have hnm : nm = .string S := by rw [hS]; exact hx.name
  subst hnm
  clear hS
  obtain ⟨ta, tc, rfl⟩ := hx.ty.shape
  obtain ⟨fa, fc, rfl⟩ := hx.fi.shape
  obtain ⟨ia, ic, rfl⟩ := hx.ins.shape
  obtain ⟨oa, oc, rfl⟩ := hx.outs.shape
  obtain ⟨ca, cc, rfl⟩ := hx.cd.shape
  have hl1 := hl.ty
  have hl2 := hl.fi
  have hl3 := hl.ins
  have hl4 := hl.outs
  have hl5 := hl.cd
  clear hx hl hcap hg hs
  generalize x.ty.length = tn at *
  generalize x.fi.length = fn at *
  generalize x.ins.length = in_ at *
  generalize x.outs.length = on_ at *
  generalize x.cd.length = cn at *
  rcases HE.out with ⟨hz, he⟩ | he
  · rw [hz] at m4
    rw [he] at m5
    rw [HS.out] at m5
    clear hz he HE HS
    by_cases h0 : (encP x).2 = 0
    · have m2' := hide (m2.out h0)
      rw [h0] at m1
      clear m2 HN h0
      generalize (⟨(encP x).1.toArray⟩ : ByteArray) = E at *
      go_enter Tryz.func5, Tryz.ntmps5
      go_wp2_with fail
      refine (m0.out _ (HB1.out _)).mono ?_
      rintro e w1 ⟨rfl, b1⟩
      have Q1 := hide ((b1.block w.heap.size (by simp)).trans (heap_alloc_new w _))
      have B1 := hide ((HB1.out _).trans (b1.mono (by simp)))
      have L1 : w.heap.size < w1.heap.size := by have := b1.size; simp at this; omega
      clear b1 m0
      obtain ⟨q0, q1, q2, q3, q4, q5, -⟩ := six Q1.out
      go_wp2_with fail
      refine (m1.out _ B1.out).mono ?_
      rintro e w2 ⟨rfl, b2⟩
      have Q2 := hide ((b2.block w.heap.size L1).trans Q1.out)
      have B2 := hide (B1.out.trans (b2.mono B1.out.size))
      have L2 : w.heap.size < w2.heap.size := by have := b2.size; omega
      clear b2 m1 Q1 B1 L1 q0 q1 q2 q3 q4 q5
      go_wp2_with fail
      refine (m2'.out _ B2.out).mono ?_
      rintro e w3 ⟨nm', tv', fv', iv', ov', cv', rfl, hI3, hc3, b3⟩
      have Q3 := hide ((b3.block w.heap.size L2).trans Q2.out)
      have B3 := hide (B2.out.trans (b3.mono B2.out.size))
      have L3 : w.heap.size < w3.heap.size := by have := b3.size; omega
      obtain ⟨S', ta', fa', ia', oa', ca', tn', fn', in', on', cn', tc', fc', ic', oc', cc', rfl, rfl, rfl, rfl, rfl, rfl⟩ := im_shape hI3.im
      have HA3 := hide (fun A => hI3.on ((Below.refl _ _).alloc (Nat.le_refl _) A))
      have M3 := hide (m3.out (w3.alloc (.cells #[.string S', .slice ta' tn' tc', .slice fa' fn' fc', .slice ia' in' ic', .slice oa' on' oc', .slice ca' cn' cc'] 26)) _ _ _ _ _ _ (B3.out.alloc B3.out.size _) (HA3.out _).im)
      have hq := fun A => six ((heap_alloc_old w3 A L3).trans Q3.out)
      have q0 := fun A => (hq A).1
      have q1 := fun A => (hq A).2.1
      have q2 := fun A => (hq A).2.2.1
      have q3 := fun A => (hq A).2.2.2.1
      have q4 := fun A => (hq A).2.2.2.2.1
      have q5 := fun A => (hq A).2.2.2.2.2.1
      clear hq hI3 hc3 b3 m2' m3 B2 Q2 L2
      go_wp2_with fail
      refine M3.out.mono ?_
      rintro e w4 ⟨rfl, b4⟩
      have B4 := hide ((B3.out.alloc B3.out.size _).trans (b4.mono (by simp; omega)))
      clear b4 M3 HA3 Q3 B3 L3 q0 q1 q2 q3 q4 q5
      go_wp2_with fail
      refine (m4.out _ B4.out).mono ?_
      rintro e w5 ⟨nm', tv', fv', iv', ov', cv', rfl, hI5, hc5, b5⟩
      have B5 := hide (B4.out.trans (b5.mono B4.out.size))
      obtain ⟨S', ta', fa', ia', oa', ca', tn', fn', in', on', cn', tc', fc', ic', oc', cc', rfl, rfl, rfl, rfl, rfl, rfl⟩ := im_shape hI5.im
      have M5 := hide (m5.out (w5.alloc (.cells #[.string S', .slice ta' tn' tc', .slice fa' fn' fc', .slice ia' in' ic', .slice oa' on' oc', .slice ca' cn' cc'] 26)) _ _ _ _ _ _ (B5.out.alloc B5.out.size _) (hI5.on ((Below.refl _ _).alloc (Nat.le_refl _) _)).im hc5)
      clear hI5 hc5 b5 m4 m5 B4
      go_wp2_with fail
      refine M5.out.mono ?_
      rintro e w6 ⟨rfl, b6⟩
      have B6 := hide ((B5.out.alloc B5.out.size _).trans (b6.mono (by have := B5.out.size; simp; omega)))
      clear b6 M5 B5
      go_wp2
      go_ret
      exact ⟨rfl, B6.out⟩
    · have hb : ((encP x).2 == 0) = false := by simpa using h0
      rw [HN.out h0] at m1
      clear m2 HN h0 m3
      generalize (encP x).2 = c at *
      go_enter Tryz.func5, Tryz.ntmps5
      go_wp2_with fail
      refine (m0.out _ (HB1.out _)).mono ?_
      rintro e w1 ⟨rfl, b1⟩
      have Q1 := hide ((b1.block w.heap.size (by simp)).trans (heap_alloc_new w _))
      have B1 := hide ((HB1.out _).trans (b1.mono (by simp)))
      have L1 : w.heap.size < w1.heap.size := by have := b1.size; simp at this; omega
      clear b1 m0
      obtain ⟨q0, q1, q2, q3, q4, q5, -⟩ := six Q1.out
      go_wp2_with fail
      refine (m1.out _ B1.out).mono ?_
      rintro e w2 ⟨rfl, b2⟩
      have Q2 := hide ((b2.block w.heap.size L1).trans Q1.out)
      have B2 := hide (B1.out.trans (b2.mono B1.out.size))
      have L2 : w.heap.size < w2.heap.size := by have := b2.size; omega
      clear b2 m1 Q1 B1 L1 q0 q1 q2 q3 q4 q5
      go_wp2_with fail
      refine (m4.out _ B2.out).mono ?_
      rintro e w5 ⟨nm', tv', fv', iv', ov', cv', rfl, hI5, hc5, b5⟩
      have B5 := hide (B2.out.trans (b5.mono B2.out.size))
      obtain ⟨S', ta', fa', ia', oa', ca', tn', fn', in', on', cn', tc', fc', ic', oc', cc', rfl, rfl, rfl, rfl, rfl, rfl⟩ := im_shape hI5.im
      have M5 := hide (m5.out (w5.alloc (.cells #[.string S', .slice ta' tn' tc', .slice fa' fn' fc', .slice ia' in' ic', .slice oa' on' oc', .slice ca' cn' cc'] 26)) _ _ _ _ _ _ (B5.out.alloc B5.out.size _) (hI5.on ((Below.refl _ _).alloc (Nat.le_refl _) _)).im hc5)
      clear hI5 hc5 b5 m4 m5 B2
      go_wp2_with fail
      refine M5.out.mono ?_
      rintro e w6 ⟨rfl, b6⟩
      have B6 := hide ((B5.out.alloc B5.out.size _).trans (b6.mono (by have := B5.out.size; simp; omega)))
      clear b6 M5 B5
      go_wp2
      go_ret
      exact ⟨rfl, B6.out⟩
  · rw [he] at m4
    clear he HE HS m5
    by_cases h0 : (encP x).2 = 0
    · have m2' := hide (m2.out h0)
      rw [h0] at m1
      clear m2 HN h0
      generalize (⟨(encP x).1.toArray⟩ : ByteArray) = E at *
      go_enter Tryz.func5, Tryz.ntmps5
      go_wp2_with fail
      refine (m0.out _ (HB1.out _)).mono ?_
      rintro e w1 ⟨rfl, b1⟩
      have Q1 := hide ((b1.block w.heap.size (by simp)).trans (heap_alloc_new w _))
      have B1 := hide ((HB1.out _).trans (b1.mono (by simp)))
      have L1 : w.heap.size < w1.heap.size := by have := b1.size; simp at this; omega
      clear b1 m0
      obtain ⟨q0, q1, q2, q3, q4, q5, -⟩ := six Q1.out
      go_wp2_with fail
      refine (m1.out _ B1.out).mono ?_
      rintro e w2 ⟨rfl, b2⟩
      have Q2 := hide ((b2.block w.heap.size L1).trans Q1.out)
      have B2 := hide (B1.out.trans (b2.mono B1.out.size))
      have L2 : w.heap.size < w2.heap.size := by have := b2.size; omega
      clear b2 m1 Q1 B1 L1 q0 q1 q2 q3 q4 q5
      go_wp2_with fail
      refine (m2'.out _ B2.out).mono ?_
      rintro e w3 ⟨nm', tv', fv', iv', ov', cv', rfl, hI3, hc3, b3⟩
      have Q3 := hide ((b3.block w.heap.size L2).trans Q2.out)
      have B3 := hide (B2.out.trans (b3.mono B2.out.size))
      have L3 : w.heap.size < w3.heap.size := by have := b3.size; omega
      obtain ⟨S', ta', fa', ia', oa', ca', tn', fn', in', on', cn', tc', fc', ic', oc', cc', rfl, rfl, rfl, rfl, rfl, rfl⟩ := im_shape hI3.im
      have HA3 := hide (fun A => hI3.on ((Below.refl _ _).alloc (Nat.le_refl _) A))
      have M3 := hide (m3.out (w3.alloc (.cells #[.string S', .slice ta' tn' tc', .slice fa' fn' fc', .slice ia' in' ic', .slice oa' on' oc', .slice ca' cn' cc'] 26)) _ _ _ _ _ _ (B3.out.alloc B3.out.size _) (HA3.out _).im)
      have hq := fun A => six ((heap_alloc_old w3 A L3).trans Q3.out)
      have q0 := fun A => (hq A).1
      have q1 := fun A => (hq A).2.1
      have q2 := fun A => (hq A).2.2.1
      have q3 := fun A => (hq A).2.2.2.1
      have q4 := fun A => (hq A).2.2.2.2.1
      have q5 := fun A => (hq A).2.2.2.2.2.1
      clear hq hI3 hc3 b3 m2' m3 B2 Q2 L2
      go_wp2_with fail
      refine M3.out.mono ?_
      rintro e w4 ⟨rfl, b4⟩
      have B4 := hide ((B3.out.alloc B3.out.size _).trans (b4.mono (by simp; omega)))
      clear b4 M3 HA3 Q3 B3 L3 q0 q1 q2 q3 q4 q5
      go_wp2_with fail
      refine (m4.out _ B4.out).mono ?_
      rintro e w5 ⟨nm', tv', fv', iv', ov', cv', rfl, hI5, hc5, b5⟩
      have B5 := hide (B4.out.trans (b5.mono B4.out.size))
      have hn5 : nm' = .string ⟨#[]⟩ := hI5.im.name
      obtain ⟨S', ta', fa', ia', oa', ca', tn', fn', in', on', cn', tc', fc', ic', oc', cc', rfl, rfl, rfl, rfl, rfl, rfl⟩ := im_shape hI5.im
      obtain rfl : S' = ⟨#[]⟩ := by injection hn5
      obtain rfl : cn' = 0 := by
        obtain ⟨a9, c9, h9⟩ := hI5.im.cd.shape
        injection h9
      have B6 := hide (fun A => B5.out.alloc B5.out.size A)
      clear hI5 hc5 b5 m4 B4 hn5 B5
      go_wp2
      go_ret
      exact ⟨rfl, B6.out _⟩
    · have hb : ((encP x).2 == 0) = false := by simpa using h0
      rw [HN.out h0] at m1
      clear m2 HN h0 m3
      generalize (encP x).2 = c at *
      go_enter Tryz.func5, Tryz.ntmps5
      go_wp2_with fail
      refine (m0.out _ (HB1.out _)).mono ?_
      rintro e w1 ⟨rfl, b1⟩
      have Q1 := hide ((b1.block w.heap.size (by simp)).trans (heap_alloc_new w _))
      have B1 := hide ((HB1.out _).trans (b1.mono (by simp)))
      have L1 : w.heap.size < w1.heap.size := by have := b1.size; simp at this; omega
      clear b1 m0
      obtain ⟨q0, q1, q2, q3, q4, q5, -⟩ := six Q1.out
      go_wp2_with fail
      refine (m1.out _ B1.out).mono ?_
      rintro e w2 ⟨rfl, b2⟩
      have Q2 := hide ((b2.block w.heap.size L1).trans Q1.out)
      have B2 := hide (B1.out.trans (b2.mono B1.out.size))
      have L2 : w.heap.size < w2.heap.size := by have := b2.size; omega
      clear b2 m1 Q1 B1 L1 q0 q1 q2 q3 q4 q5
      go_wp2_with fail
      refine (m4.out _ B2.out).mono ?_
      rintro e w5 ⟨nm', tv', fv', iv', ov', cv', rfl, hI5, hc5, b5⟩
      have B5 := hide (B2.out.trans (b5.mono B2.out.size))
      have hn5 : nm' = .string ⟨#[]⟩ := hI5.im.name
      obtain ⟨S', ta', fa', ia', oa', ca', tn', fn', in', on', cn', tc', fc', ic', oc', cc', rfl, rfl, rfl, rfl, rfl, rfl⟩ := im_shape hI5.im
      obtain rfl : S' = ⟨#[]⟩ := by injection hn5
      obtain rfl : cn' = 0 := by
        obtain ⟨a9, c9, h9⟩ := hI5.im.cd.shape
        injection h9
      have B6 := hide (fun A => B5.out.alloc B5.out.size A)
      clear hI5 hc5 b5 m4 B2 hn5 B5
      go_wp2
      go_ret
      exact ⟨rfl, B6.out _⟩
end Go.Proofs.YtmbgcpmapaedcaaGreatDoor
namespace Go.Proofs.YtmbgcpmapaedcaaGreatDoor.Wi
open Go.RowKit
theorem byte_int (n : Nat) (h : n < 256) : (((UInt8.ofNat n).toNat : Nat) : Int) = (n : Int) := by rw [byte_of]; omega
theorem lit_at (w : World) (A : Obj) : ((w.alloc A).alloc (.cells #[.int .u8 35] 5)).ownsRow (w.heap.size + 1) 5 1 (.slice (some ⟨w.heap.size + 1, 0, none⟩) 1 1) 1 [.int .u8 35] := by
  have h := World.ownsRow_lit (base := w.heap.size + 1) (e := 5) (size := 1) (w.alloc A) #[.int .u8 35] 1 (by simp) (by unfold maxLen; omega) rfl
  simpa using h
set_option maxRecDepth 100000 in
set_option maxHeartbeats 1600000 in
theorem one_any (x : It) (hm : mayB x = true) (w : World) :
    Calls Tryz.prog 83 #[itA x] w fun e w' => e = .returned (.string ⟨(oneB x).toArray⟩) ∧ Below w.heap.size w w' := by
  obtain ⟨i0, hi, hz0, hz1, hz2⟩ := info_parts in5
  have hsz := may_size hm
  obtain ⟨t, n, s⟩ := x
  have hs : s.size ≤ 65535 := hsz
  unfold itA
  clear hsz hm
  cases t with
  | true =>
    have hconv := run_convert_bytes_back (P := Tryz.prog) ((w.alloc (.cells #[.bool true, .int .i64 n, .string s] 61)).alloc (.cells #[.int .u8 36, .int .u8 ((s.size : Int) / 256), .int .u8 ((s.size : Int) % 256)] 5)) 78 9 5 ⟨w.heap.size + 1, 0, none⟩ 3 [36, UInt8.ofNat (s.size / 256), UInt8.ofNat (s.size % 256)] Tryz.underlying78 Tryz.underlying5 Tryz.underlying9 (fun j hj => by
      rw [addr_add, cell_of_row _ _ _ _ _ _ (alloc2_at w _ _)]
      match j, hj with
      | 0, _ => rfl
      | 1, _ => show some _ = some (Value.int .u8 (((UInt8.ofNat (s.size / 256)).toNat : Nat) : Int)); rw [byte_int _ (by omega)]; simp
      | 2, _ => show some _ = some (Value.int .u8 (((UInt8.ofNat (s.size % 256)).toNat : Nat) : Int)); rw [byte_int _ (by omega)]; simp)
    have hl3 : [36, UInt8.ofNat (s.size / 256), UInt8.ofNat (s.size % 256)].length = 3 := rfl
    rw [hl3] at hconv
    have HO : Hid (oneB ⟨true, n, s⟩ = [36, UInt8.ofNat (s.size / 256), UInt8.ofNat (s.size % 256)] ++ s.data.toList) := rfl
    generalize oneB ⟨true, n, s⟩ = ob at *
    have a1 : ∀ W : World, (Op.stringOp .add ⟨[36, UInt8.ofNat (s.size / 256), UInt8.ofNat (s.size % 256)].toArray⟩ s).run Tryz.prog W = .ok (.string ⟨ob.toArray⟩) W := fun W => by
      rw [run_string_add_sum W _ _ (by rw [list_size, hl3]; omega)]
      congr 2
      apply text_ext
      rw [ByteArray.data_append, Array.toList_append, HO.out]
    have s1 : (s.size : Int) ≤ 65535 := by omega
    generalize (⟨[36, UInt8.ofNat (s.size / 256), UInt8.ofNat (s.size % 256)].toArray⟩ : ByteArray) = u at *
    clear hl3
    go_enter Tryz.func83, Tryz.ntmps83
    go_wp2
    go_ret
    exact ⟨rfl, ((Below.refl _ _).alloc (Nat.le_refl _) _).alloc (by simp) _⟩
  | false =>
    have HO : Hid (oneB ⟨false, n, s⟩ = 35 :: numB (nb n)) := rfl
    have hw := nb_wrap n
    have HN := hide (nb_lt n)
    generalize oneB ⟨false, n, s⟩ = ob at *
    generalize nb n = N at *
    go_enter Tryz.func83, Tryz.ntmps83
    go_wp2_with fail
    go_loopw [3, 4] (fun b i wr => ∃ (k : Nat) (b' : Value), k ≤ 8 ∧ i = .int .i64 (7 - (k : Int)) ∧ b' = b ∧ wr.ownsRow (w.heap.size + 1) 5 1 b' (1 + k) ([.int .u8 35] ++ ((numB N).take k).map encB) ∧ Below (w.heap.size + 1) (w.alloc (.cells #[.bool false, .int .i64 n, .string s] 61)) wr) (fun _ i _ => (intOf i + 1).toNat)
    case atStart => exact ⟨0, _, by omega, rfl, rfl, lit_at w _, (Below.refl _ _).alloc (by simp) _⟩
    case round =>
      obtain ⟨k, b, hk, rfl, rfl, hown, hbel⟩ := hrel
      by_cases hlt : k < 8
      · have j0 : (0 : Int) ≤ 7 - (k : Int) := by omega
        have hc : wr.cell? ⟨w.heap.size, 1, none⟩ = some (.int .i64 n) := (hbel.cell (p := ⟨w.heap.size, 1, none⟩) (by simp)).trans (by simp)
        have zr : w.heap.size + 1 ≤ wr.heap.size := by have := hbel.size; simpa using this
        have HOW := hide hown
        have HB := hide hbel
        clear hown hbel
        have HT : Hid (((numB N).take (k + 1)).map encB = ((numB N).take k).map encB ++ [.int .u8 ((N : Int) / 2 ^ (8 * (7 - k)) % 256)]) := by
          have h := numB_take N k hlt
          rw [show 56 - 8 * k = 8 * (7 - k) from by omega] at h; exact h
        go_wp2_with (at_builtin; go_must (refine wpList_append_lies _ (by rfl) _ _ _ (by rfl) (w.heap.size + 1) 5 i0 _ 1 1 Tryz.underlying78 hi hz0 hz1 hz2 rfl (by omega) b (1 + k) _ (by rfl) (HOW.out.alloc _) ⟨wr.heap.size, 0, none⟩ 1 1 [.int .u8 ((N : Int) / 2 ^ (8 * (7 - k)) % 256)] (by rfl) (by rfl) (World.news_of_block (cs := #[.int .u8 ((N : Int) / 2 ^ (8 * (7 - k)) % 256)]) (t := 5) (fr := (0, 0)) (heap_alloc_new wr _)) (by simp [Value.oneCell']) (by omega) (by unfold maxLen; omega) (by omega) (by simp; omega) (wr.heap.size + 1) (by simp) ?_; intro gg cap' w3 hown3 hgrow hat3 hlt3))
        go_roundw
        case rel =>
          refine ⟨k + 1, _, by omega, by go_num, rfl, ?_, (HB.out.alloc (by simpa using zr) _).grown hgrow (by simp; omega) (fun r hr => (HOW.out.lt r hr).1)⟩
          rw [HT.out, ← List.append_assoc]
          exact hown3
        case measure => simp only [intOf]; omega
      · obtain rfl : k = 8 := by omega
        obtain ⟨g8, cap8, rfl, _, _⟩ := hown.form (by omega)
        have hob : ob.map encB = [.int .u8 35] ++ ((numB N).take 8).map encB := by rw [HO.out]; rfl
        rw [← hob] at hown
        have hol : ob.length = 9 := by rw [HO.out]; rfl
        have hconv := run_convert_bytes_back (P := Tryz.prog) wr 78 9 5 ⟨g8, 0, none⟩ cap8 ob Tryz.underlying78 Tryz.underlying5 Tryz.underlying9 (fun i hi => by
          rw [addr_add, hown.cellAt i (by omega), List.getElem?_map, List.getElem?_eq_getElem hi]; rfl)
        rw [hol] at hconv
        have HB : Hid (Below w.heap.size w wr) := ((Below.refl _ _).alloc (Nat.le_refl _) _).trans (hbel.mono (by omega))
        clear hown hbel hob hol
        go_wp2
        go_ret
        exact ⟨rfl, HB.out⟩
end Go.Proofs.YtmbgcpmapaedcaaGreatDoor.Wi
