/- code: Decode. -/
import Derived.Test.YtmbgcpmapaedcaaGreatDoorDeF
import Derived.Test.YtmbgcpmapaedcaaGreatDoorEnE
import Derived.Test.YtmbgcpmapaedcaaGreatDoorMg23
namespace Go.Proofs.YtmbgcpmapaedcaaGreatDoor
open Go.RowKit
open Wi (It itA ItsAt)
def img0 : Img := ⟨[], [], [], [], [], []⟩
/-- code.Decode's answer -/
def decP (b : List UInt8) : Img × Int := if (Wi.decB b).2.2 = 0 then (if encP (imgV (Wi.decB b).1) = (b, 0) then (imgV (Wi.decB b).1, 0) else (img0, 130)) else (img0, 130)
theorem lin_len (l : List It) : (linP l).1.length ≤ l.length := by
  unfold linP
  rw [takN_length]
  have := cntP_le l
  rw [List.length_tail] at this; omega
theorem img_len (l : List It) (h : l.length ≤ 1000) (hs : ∀ x ∈ l, x.s.size ≤ 65536) : ImL (imgV l) := by
  have hc : cntP l.tail ≤ 1000 := by have := cntP_le l.tail; rw [List.length_tail, List.length_tail] at this; omega
  have hr := rest_len l
  have h1 := lin_len (restP l)
  have h2 := lin_rest (restP l)
  have h3 := lin_len (linP (restP l)).2
  refine ⟨?_, ?_, ?_, ?_, ?_⟩
  · show (takP (cntP l.tail) l.tail.tail).1.1.length ≤ _
    rw [(takP_len _ _).1]; omega
  · show (takP (cntP l.tail) l.tail.tail).1.2.length ≤ _
    rw [(takP_len _ _).2]; omega
  · show (linP (restP l)).1.length ≤ _
    omega
  · show (linP (linP (restP l)).2).1.length ≤ _
    omega
  · show (cdV ((linP (linP (restP l)).2).2.headD it0).s.data.toList).length ≤ _
    unfold cdV
    rw [cdN_length]
    have h4 : ((linP (linP (restP l)).2).2.headD it0).s.data.toList.length ≤ 65536 := by
      rw [Wi.text_len]
      cases hh : (linP (linP (restP l)).2).2 with
      | nil => exact Nat.zero_le _
      | cons z r =>
        refine hs z ?_
        have hm : z ∈ (linP (linP (restP l)).2).2 := by rw [hh]; exact List.mem_cons_self
        unfold linP restP at hm
        rw [takN_rest, takN_rest, takP_rest] at hm
        exact List.mem_of_mem_tail (List.mem_of_mem_tail (List.mem_of_mem_drop (List.mem_of_mem_tail (List.mem_of_mem_drop (List.mem_of_mem_tail (List.mem_of_mem_drop hm))))))
    omega
theorem may_size {x : It} (h : Wi.mayB x = true) : x.s.size ≤ 65536 := by
  unfold Wi.mayB at h
  split at h
  · simp only [Bool.and_eq_true, decide_eq_true_eq] at h; omega
  · simp only [decide_eq_true_eq] at h; omega
theorem all_size : ∀ (l : List It), Wi.allMay l = true → ∀ x ∈ l, x.s.size ≤ 65536
  | [], _ => fun x hx => by cases hx
  | y :: l, h => fun x hx => by
    have h' : (Wi.mayB y && Wi.allMay l) = true := h
    rw [Bool.and_eq_true] at h'
    rcases List.mem_cons.1 hx with rfl | hx
    · exact may_size h'.1
    · exact all_size l h'.2 x hx
theorem im_none (w : World) : Im w (.string ⟨#[]⟩) (.slice none 0 0) (.slice none 0 0) (.slice none 0 0) (.slice none 0 0) (.slice none 0 0) img0 :=
  ⟨rfl, ILst.nil w 0, ILst.nil w 0, ILst.nil w 0, ILst.nil w 0, ISt.nil w 0⟩
theorem six {W : World} {Z : Nat} {a b c d e f : Value} (h : W.heap[Z]? = some (.cells #[a, b, c, d, e, f] 26 (0, 0))) : W.cell? ⟨Z, 0, none⟩ = some a ∧ W.cell? ⟨Z, 1, none⟩ = some b ∧ W.cell? ⟨Z, 2, none⟩ = some c ∧ W.cell? ⟨Z, 3, none⟩ = some d ∧ W.cell? ⟨Z, 4, none⟩ = some e ∧ W.cell? ⟨Z, 5, none⟩ = some f ∧ ∀ j, W.frozen? ⟨Z, j, none⟩ = false :=
  ⟨(Lib.cell_of_heap (j := 0) h).trans rfl, (Lib.cell_of_heap (j := 1) h).trans rfl, (Lib.cell_of_heap (j := 2) h).trans rfl, (Lib.cell_of_heap (j := 3) h).trans rfl, (Lib.cell_of_heap (j := 4) h).trans rfl, (Lib.cell_of_heap (j := 5) h).trans rfl, fun j => Lib.frozen_of_heap h j⟩
/-- what Decode leaves -/
def DecQ (x : Img) (c : Int) (w : World) (e : Ending) (w' : World) : Prop :=
  ∃ nm tv fv iv ov cv, e = .returned (.tuple #[.agg #[nm, tv, fv, iv, ov, cv], .int .i64 c]) ∧ ImF w.heap.size w' nm tv fv iv ov cv x ∧ (∀ a n c, tv = .slice a n c → n ≤ c) ∧ Below w.heap.size w w'
set_option maxRecDepth 100000 in
set_option maxHeartbeats 1600000 in
theorem decode13_any (s : ByteArray) (hs : s.size ≤ 140737488355328) (w : World) (hg : GlC w) (hw : Wi.Glo w) :
    Calls Tryz.prog 14 #[.string s] w (DecQ (decP s.data.toList).1 (decP s.data.toList).2 w) := by
  have HB1 : Hid (∀ A, Below w.heap.size w (w.alloc A)) := fun A => (Below.refl _ _).alloc (Nat.le_refl _) _
  have zg := hg.lt
  have zw := hw.lt
  have m1 : Hid (∀ W, Below w.heap.size w W → Calls Tryz.prog 29 #[.string s] W (Wi.DecOut s.data.toList W)) := fun W hb => Wi.decode_any s hs W (hw.below hb zw)
  have HP : Hid (decP s.data.toList = if (Wi.decB s.data.toList).2.2 = 0 then (if encP (imgV (Wi.decB s.data.toList).1) = (s.data.toList, 0) then (imgV (Wi.decB s.data.toList).1, 0) else (img0, 130)) else (img0, 130)) := rfl
  have HG := hide hg
  obtain ⟨Z, hZ⟩ : ∃ Z, Z = w.heap.size := ⟨_, rfl⟩
  generalize decP s.data.toList = R at *
  obtain ⟨rx, rc⟩ := R
  clear hg hw hs
  go_enter Tryz.func14, Tryz.ntmps14
  go_wp2_with fail
  refine (m1.out _ (HB1.out _)).mono ?_
  rintro e w1 ⟨v, l, p, c, hd, rfl, ho1, hb1⟩
  rw [hd] at HP
  have HD := hide hd
  clear hd m1
  have B1 := hide ((HB1.out _).trans (hb1.mono (by simp)))
  have hres := (hb1.block w.heap.size (by simp)).trans (heap_alloc_new w _)
  have z1 := hb1.size
  simp only [World.size_alloc] at z1
  have O1 := hide ho1
  obtain ⟨va, vc, hv, -⟩ := owns_slice ho1
  obtain ⟨n, hn⟩ : ∃ n, n = l.length := ⟨_, rfl⟩
  rw [← hn] at hv
  have HN := hide hn
  subst hv
  have RES := hide hres
  clear hb1 hres ho1 hn
  by_cases hc : c = 0
  · subst hc
    obtain ⟨h0, hE, hby, hfit⟩ := Wi.enc_dec _ l p HD.out
    obtain ⟨hl, hall, hlen⟩ := Wi.encE_zero hE
    have hsz := all_size l hall
    have hL := img_len l hl hsz
    subst h0
    have m2 : Hid (∀ W, W.ownsRow 0 61 3 (.slice va n vc) l.length (Wi.itsC l) → Calls Tryz.prog 30 #[.slice va n vc] W fun e w' => ∃ tv fv iv ov cv, e = .returned (.agg #[.string ⟨(imgV l).name.toArray⟩, tv, fv, iv, ov, cv]) ∧ ImF W.heap.size w' (.string ⟨(imgV l).name.toArray⟩) tv fv iv ov cv (imgV l) ∧ (∀ a n c, tv = .slice a n c → n ≤ c) ∧ Below W.heap.size W w') := fun W h => image_any _ l W h hl hsz
    have m3 : Hid (∀ W nm tv fv iv ov cv, Below w.heap.size w W → Im W nm tv fv iv ov cv (imgV l) → (∀ a n c, tv = .slice a n c → n ≤ c) → Calls Tryz.prog 9 #[.agg #[nm, tv, fv, iv, ov, cv]] W fun e w' => e = .returned (.tuple #[.string ⟨(encP (imgV l)).1.toArray⟩, .int .i64 (encP (imgV l)).2]) ∧ Below W.heap.size W w') := fun W nm tv fv iv ov cv hb hI hc => encode13_any nm tv fv iv ov cv _ W (HG.out.on hb zg) hI hc hL
    have HQ : Hid ((rx, rc) = if encP (imgV l) = (s.data.toList, 0) then (imgV l, 0) else (img0, 130)) := by show _ = _; rw [HP.out]; rfl
    clear hL hsz hall hlen hby hfit hE HP HD
    obtain ⟨nS, hnS⟩ : ∃ nS : ByteArray, nS = ⟨(imgV l).name.toArray⟩ := ⟨_, rfl⟩
    rw [← hnS] at m2
    clear hnS
    go_wp2_with fail
    refine (m2.out _ (Wi.owns_base (O1.out.alloc _) (Nat.zero_le _))).mono ?_
    rintro e w3 ⟨tv, fv, iv, ov, cv, rfl, hI3, hc3, hb3⟩
    obtain ⟨ta, tc, rfl⟩ := hI3.im.ty.shape
    obtain ⟨fa, fc, rfl⟩ := hI3.im.fi.shape
    obtain ⟨ia, ic, rfl⟩ := hI3.im.ins.shape
    obtain ⟨oa, oc, rfl⟩ := hI3.im.outs.shape
    obtain ⟨ca, cc, rfl⟩ := hI3.im.cd.shape
    have B3 := hide ((B1.out.alloc B1.out.size _).trans (hb3.mono (by simp; omega)))
    have R3 := hide ((hb3.block w.heap.size (by simp; omega)).trans ((heap_alloc_old _ _ (by omega)).trans RES.out))
    rw [World.size_alloc] at hI3
    have I3 := hide hI3
    have C3 := hide hc3
    have z3 := hb3.size
    simp only [World.size_alloc] at z3
    clear hI3 hc3 hb3 m2
    obtain ⟨tn, htn⟩ : ∃ n, n = (imgV l).ty.length := ⟨_, rfl⟩
    obtain ⟨fn, hfn⟩ : ∃ n, n = (imgV l).fi.length := ⟨_, rfl⟩
    obtain ⟨in_, hin⟩ : ∃ n, n = (imgV l).ins.length := ⟨_, rfl⟩
    obtain ⟨on_, hon⟩ : ∃ n, n = (imgV l).outs.length := ⟨_, rfl⟩
    obtain ⟨cn, hcn⟩ : ∃ n, n = (imgV l).cd.length := ⟨_, rfl⟩
    rw [← htn, ← hfn, ← hin, ← hon, ← hcn] at I3 ⊢
    rw [← htn] at C3
    clear htn hfn hin hon hcn
    have M3 := hide (m3.out (w3.alloc (.cells #[.string nS, .slice ta tn tc, .slice fa fn fc, .slice ia in_ ic, .slice oa on_ oc, .slice ca cn cc] 26)) _ _ _ _ _ _ (B3.out.alloc B3.out.size _) (I3.out.on ((Below.refl _ _).alloc (Nat.le_refl _) _)).im C3.out)
    clear m3
    go_wp2_with fail
    refine M3.out.mono ?_
    rintro e w4 ⟨rfl, hb4⟩
    have B4 := hide ((B3.out.alloc B3.out.size _).trans (hb4.mono (by simp; omega)))
    have R4 := hide ((hb4.block w.heap.size (by simp; omega)).trans ((heap_alloc_old _ _ (by omega)).trans R3.out))
    have X4 := hide ((hb4.block w3.heap.size (by simp)).trans (heap_alloc_new w3 _))
    have I4 := hide ((I3.out.on ((Below.refl _ _).alloc (Nat.le_refl _) _)).on hb4)
    have z4 := hb4.size
    simp only [World.size_alloc] at z4
    obtain ⟨q0, q1, q2, q3, q4, q5, qf⟩ := six R4.out
    obtain ⟨x0, x1, x2, x3, x4, x5, -⟩ := six X4.out
    have HT : Hid ((encP (imgV l)).1 = s.data.toList ↔ (⟨(encP (imgV l)).1.toArray⟩ : ByteArray) = s) := ⟨fun h => (Wi.of_list s _ h.symm).symm, fun h => by rw [← h]⟩
    have HV : Hid (encP (imgV l) = (s.data.toList, 0) ↔ (encP (imgV l)).1 = s.data.toList ∧ (encP (imgV l)).2 = 0) := Prod.ext_iff
    obtain ⟨E1, hE1⟩ : ∃ E1 : ByteArray, E1 = ⟨(encP (imgV l)).1.toArray⟩ := ⟨_, rfl⟩
    rw [← hE1] at HT ⊢
    clear hb4 M3 B3 R3 hE1
    by_cases h0 : (encP (imgV l)).2 = 0
    · rw [h0]
      by_cases h1 : E1 = s
      · have HR : Hid ((rx, rc) = (imgV l, 0)) := by show _ = _; rw [HQ.out]; exact if_pos (HV.out.2 ⟨HT.out.2 h1, h0⟩)
        obtain ⟨rfl, rfl⟩ := Prod.mk.inj HR.out
        subst h1
        clear HQ HV HT h0 HR
        go_wp2_with fail
        clear q0 q1 q2 q3 q4 q5 qf x0 x1 x2 x3 x4 x5
        obtain ⟨W, hW⟩ : ∃ W, W = set6 w4 w.heap.size (.string nS) (.slice ta tn tc) (.slice fa fn fc) (.slice ia in_ ic) (.slice oa on_ oc) (.slice ca cn cc) := ⟨_, rfl⟩
        have hr : W.heap[w.heap.size]? = some (.cells #[.string nS, .slice ta tn tc, .slice fa fn fc, .slice ia in_ ic, .slice oa on_ oc, .slice ca cn cc] 26 (0, 0)) := by rw [hW]; exact heap6 R4.out
        have bW : Below w.heap.size w W := by rw [hW]; exact below6 B4.out (Nat.le_refl _)
        have iW : ImF (w1.heap.size + 1) W (.string nS) (.slice ta tn tc) (.slice fa fn fc) (.slice ia in_ ic) (.slice oa on_ oc) (.slice ca cn cc) (imgV l) := by rw [hW]; exact I4.out.set6 (by omega)
        unfold set6 at hW
        rw [← hW]
        obtain ⟨e0, e1, e2, e3, e4, e5, -⟩ := six hr
        refine bodyPost_ret (v := .tuple #[.agg #[.string nS, .slice ta tn tc, .slice fa fn fc, .slice ia in_ ic, .slice oa on_ oc, .slice ca cn cc], .int .i64 0]) (by simp [results, Tryz.results14, go_sem, e0, e1, e2, e3, e4, e5]) rfl ⟨_, _, _, _, _, _, rfl, iW.drop (by omega), C3.out, bW⟩
      · have HR : Hid ((rx, rc) = (img0, 130)) := by show _ = _; rw [HQ.out]; exact if_neg (fun h => h1 (HT.out.1 (HV.out.1 h).1))
        obtain ⟨rfl, rfl⟩ := Prod.mk.inj HR.out
        have hb : (E1.toList == s.toList) = false := by rw [Wi.beq_text]; exact decide_eq_false h1
        clear HQ HV HT h0 HR
        go_wp2_with fail
        clear q0 q1 q2 q3 q4 q5 qf x0 x1 x2 x3 x4 x5
        obtain ⟨W, hW⟩ : ∃ W, W = set6 w4 w.heap.size (.string ⟨#[]⟩) (.slice none 0 0) (.slice none 0 0) (.slice none 0 0) (.slice none 0 0) (.slice none 0 0) := ⟨_, rfl⟩
        have hr : W.heap[w.heap.size]? = some (.cells #[.string ⟨#[]⟩, .slice none 0 0, .slice none 0 0, .slice none 0 0, .slice none 0 0, .slice none 0 0] 26 (0, 0)) := by rw [hW]; exact heap6 R4.out
        have bW : Below w.heap.size w W := by rw [hW]; exact below6 B4.out (Nat.le_refl _)
        unfold set6 at hW
        rw [← hW]
        obtain ⟨e0, e1, e2, e3, e4, e5, -⟩ := six hr
        refine bodyPost_ret (v := .tuple #[.agg #[.string ⟨#[]⟩, .slice none 0 0, .slice none 0 0, .slice none 0 0, .slice none 0 0, .slice none 0 0], .int .i64 130]) (by simp [results, Tryz.results14, go_sem, e0, e1, e2, e3, e4, e5]) rfl ⟨_, _, _, _, _, _, rfl, fun W' _ => im_none W', fun a n c h => by cases h; exact Nat.le_refl 0, bW⟩
    · have hb : ((encP (imgV l)).2 == 0) = false := by simpa using h0
      have HR : Hid ((rx, rc) = (img0, 130)) := by show _ = _; rw [HQ.out]; exact if_neg (fun h => h0 (HV.out.1 h).2)
      obtain ⟨rfl, rfl⟩ := Prod.mk.inj HR.out
      clear HQ HV HT HR
      go_wp2_with fail
      clear q0 q1 q2 q3 q4 q5 qf x0 x1 x2 x3 x4 x5
      obtain ⟨W, hW⟩ : ∃ W, W = set6 w4 w.heap.size (.string ⟨#[]⟩) (.slice none 0 0) (.slice none 0 0) (.slice none 0 0) (.slice none 0 0) (.slice none 0 0) := ⟨_, rfl⟩
      have hr : W.heap[w.heap.size]? = some (.cells #[.string ⟨#[]⟩, .slice none 0 0, .slice none 0 0, .slice none 0 0, .slice none 0 0, .slice none 0 0] 26 (0, 0)) := by rw [hW]; exact heap6 R4.out
      have bW : Below w.heap.size w W := by rw [hW]; exact below6 B4.out (Nat.le_refl _)
      unfold set6 at hW
      rw [← hW]
      obtain ⟨e0, e1, e2, e3, e4, e5, -⟩ := six hr
      refine bodyPost_ret (v := .tuple #[.agg #[.string ⟨#[]⟩, .slice none 0 0, .slice none 0 0, .slice none 0 0, .slice none 0 0, .slice none 0 0], .int .i64 130]) (by simp [results, Tryz.results14, go_sem, e0, e1, e2, e3, e4, e5]) rfl ⟨_, _, _, _, _, _, rfl, fun W' _ => im_none W', fun a n c h => by cases h; exact Nat.le_refl 0, bW⟩
  · have hcb : (c == 0) = false := by simpa using hc
    have HR : Hid ((rx, rc) = (img0, 130)) := by show _ = _; rw [HP.out]; exact if_neg hc
    clear hc HP
    obtain ⟨rfl, rfl⟩ := Prod.mk.inj HR.out
    have hA : ∀ A, (w1.alloc A).heap[w.heap.size]? = some (.cells #[.string ⟨#[]⟩, .slice none 0 0, .slice none 0 0, .slice none 0 0, .slice none 0 0, .slice none 0 0] 26 (0, 0)) := fun A => (heap_alloc_old _ _ (by omega)).trans RES.out
    obtain ⟨w2, hw2⟩ : ∃ w2, w2 = w1.alloc (.cells #[.int .i64 (p : Int), .int .i64 c] 51) := ⟨_, rfl⟩
    have h2 : w2.heap[w.heap.size]? = some (.cells #[.string ⟨#[]⟩, .slice none 0 0, .slice none 0 0, .slice none 0 0, .slice none 0 0, .slice none 0 0] 26 (0, 0)) := by rw [hw2]; exact hA _
    obtain ⟨q0, q1, q2, q3, q4, q5, qf⟩ := six h2
    have B2 := hide (show Below w.heap.size w w2 by rw [hw2]; exact B1.out.alloc B1.out.size _)
    have H2 := hide h2
    have HW2 := hide hw2
    rw [hw2] at q0 q1 q2 q3 q4 q5 qf
    clear hA h2 hw2
    go_wp2_with fail
    clear q0 q1 q2 q3 q4 q5 qf
    rw [← HW2.out]
    obtain ⟨W, hW⟩ : ∃ W, W = set6 w2 w.heap.size (.string ⟨#[]⟩) (.slice none 0 0) (.slice none 0 0) (.slice none 0 0) (.slice none 0 0) (.slice none 0 0) := ⟨_, rfl⟩
    have hr : W.heap[w.heap.size]? = some (.cells #[.string ⟨#[]⟩, .slice none 0 0, .slice none 0 0, .slice none 0 0, .slice none 0 0, .slice none 0 0] 26 (0, 0)) := by rw [hW]; exact heap6 H2.out
    have bW : Below w.heap.size w W := by rw [hW]; exact below6 B2.out (Nat.le_refl _)
    unfold set6 at hW
    rw [← hW]
    obtain ⟨e0, e1, e2, e3, e4, e5, -⟩ := six hr
    refine bodyPost_ret (v := .tuple #[.agg #[.string ⟨#[]⟩, .slice none 0 0, .slice none 0 0, .slice none 0 0, .slice none 0 0, .slice none 0 0], .int .i64 130]) (by simp [results, Tryz.results14, go_sem, e0, e1, e2, e3, e4, e5]) rfl ⟨_, _, _, _, _, _, rfl, fun W' _ => im_none W', fun a n c h => by cases h; exact Nat.le_refl 0, bW⟩
end Go.Proofs.YtmbgcpmapaedcaaGreatDoor
