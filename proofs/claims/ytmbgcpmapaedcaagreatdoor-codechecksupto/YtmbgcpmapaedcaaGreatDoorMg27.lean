/- code: Encode; CodeLong. | code: Decode. -/
import Derived.Test.YtmbgcpmapaedcaaGreatDoorMg23
import Derived.Test.YtmbgcpmapaedcaaGreatDoorMg13
import Derived.Test.YtmbgcpmapaedcaaGreatDoorDeF
import Derived.Test.YtmbgcpmapaedcaaGreatDoorMg19
namespace Go.Proofs.YtmbgcpmapaedcaaGreatDoor
open Go.RowKit
open Wi (It itC itsC fits bodyB oneB)
theorem fit_small {t n : Int} (h : Four.fitB t n = true) : (1 ≤ t ∧ t ≤ 4) ∧ -2147483648 ≤ n ∧ n ≤ 2147483647 := by
  have ht := Four.fit_ty h
  unfold Four.tyB at ht
  simp only [Bool.and_eq_true, decide_eq_true_eq] at ht
  refine ⟨ht, ?_⟩
  have : t = 1 ∨ t = 2 ∨ t = 3 ∨ t = 4 := by omega
  unfold Four.fitB Four.szN at h
  rcases this with rfl | rfl | rfl | rfl
  all_goals simp at h
  all_goals omega
theorem fits_n (n : Int) (h : -2147483648 ≤ n ∧ n ≤ 2147483647) : fits (nIt n) := ⟨by show _ ≤ n; omega, by show n < _; omega⟩
theorem cell_mem : ∀ (ty fi : List Int), (List.zipWith Four.fitB ty fi).all id = true → ∀ y ∈ cellIt ty fi, fits y
  | [], _, _ => fun y hy => by cases hy
  | _ :: _, [], _ => fun y hy => by cases hy
  | t :: ty, f :: fi, h => fun y hy => by
    simp only [List.zipWith_cons_cons, List.all_cons, Bool.and_eq_true, id] at h
    have h1 := fit_small h.1
    have hy' : y ∈ [nIt t, nIt f] ++ cellIt ty fi := hy
    rcases List.mem_append.1 hy' with h2 | h2
    · rcases List.mem_cons.1 h2 with rfl | h2
      · exact fits_n t (by omega)
      · rw [List.mem_singleton.1 h2]; exact fits_n f h1.2
    · exact cell_mem ty fi h.2 y h2
theorem items_fit {x : Img} (h : frameB x = true) : Wi.okL (itP x) := by
  have hF := frame_facts h
  have h' := h
  unfold frameB cellB at h'
  simp only [Bool.and_eq_true, decide_eq_true_eq] at h'
  obtain ⟨_, ⟨_, _, h3⟩, h4, _⟩ := h'
  have hb := (line_facts x.ty.length (x.ins ++ x.outs) [] List.nodup_nil (fun c hc => by cases hc) h4).2
  have hin : ∀ c ∈ x.ins ++ x.outs, -2147483648 ≤ c ∧ c ≤ 2147483647 := fun c hc => by
    have := hb c (by rw [List.append_nil]; exact List.mem_reverse.2 hc)
    have := hF.ty
    omega
  have hcl : (cellIt x.ty x.fi).length ≤ 2 * x.ty.length := by
    unfold cellIt
    have e : ∀ l : List (Int × Int), (l.flatMap fun p => [nIt p.1, nIt p.2]).length = 2 * l.length := fun l => by
      induction l with
      | nil => rfl
      | cons a l ih => rw [List.flatMap_cons, List.length_append, ih]; simp; omega
    rw [e, List.length_zip]; omega
  have h1 := hF.ty
  have h2 := hF.ins
  have h5 := hF.outs
  refine ⟨?_, fun y hy => ?_⟩
  · unfold itP
    simp only [List.length_append, List.length_map, List.length_cons, List.length_nil]
    omega
  · have hap : ∀ {a b : List It}, (∀ y ∈ a, fits y) → (∀ y ∈ b, fits y) → ∀ y ∈ a ++ b, fits y := fun ha hb y hy => (List.mem_append.1 hy).elim (ha y) (hb y)
    have hon : ∀ z, fits z → ∀ y ∈ [z], fits y := fun z hz y hy => by rw [List.mem_singleton.1 hy]; exact hz
    have hmp : ∀ l : List Int, (∀ c ∈ l, -2147483648 ≤ c ∧ c ≤ 2147483647) → ∀ y ∈ l.map nIt, fits y := fun l hl y hy => by
      obtain ⟨c, hc, rfl⟩ := List.mem_map.1 hy
      exact fits_n c (hl c hc)
    have htx : ∀ l, fits (tIt l) := fun l => ⟨by show -9223372036854775808 ≤ (0 : Int); decide, by show (0 : Int) < 9223372036854775808; decide⟩
    have htw : ∀ y ∈ [tIt x.name, nIt (x.ty.length : Int)], fits y := hap (a := [tIt x.name]) (hon _ (htx _)) (hon _ (fits_n _ (by omega)))
    exact hap (hap (hap (hap (hap (hap htw (cell_mem x.ty x.fi h3)) (hon _ (fits_n _ (by omega)))) (hmp _ fun c hc => hin c (List.mem_append_left _ hc))) (hon _ (fits_n _ (by omega)))) (hmp _ fun c hc => hin c (List.mem_append_right _ hc))) (hon _ (htx _)) y hy
theorem body_app (a b : List It) : bodyB (a ++ b) = bodyB a ++ bodyB b := by
  induction a with
  | nil => rfl
  | cons x a ih => rw [List.cons_append, bodyB, bodyB, ih, List.append_assoc]
theorem body_nums (l : List Int) : (bodyB (l.map nIt)).length = 9 * l.length := by
  induction l with
  | nil => rfl
  | cons x a ih => rw [List.map_cons, bodyB, List.length_append, ih, Wi.oneB_length, List.length_cons]; show 9 + _ = _; omega
theorem body_cells : ∀ (ty fi : List Int), fi.length = ty.length → (bodyB (cellIt ty fi)).length = 18 * ty.length
  | [], _, _ => rfl
  | _ :: _, [], h => by simp at h
  | t :: ty, f :: fi, h => by
    have h' : cellIt (t :: ty) (f :: fi) = [nIt t, nIt f] ++ cellIt ty fi := rfl
    rw [h', body_app, List.length_append, body_cells ty fi (by simpa using h), List.length_cons]
    show 18 + _ = _
    omega
theorem body_one (x : It) : (bodyB [x]).length = Wi.ib x := by rw [bodyB, List.length_append, Wi.oneB_length]; rfl
theorem body_len {x : Img} (h : x.fi.length = x.ty.length) : (bodyB (itP x)).length = 3 + x.name.length + 9 * (3 + 2 * x.ty.length + x.ins.length + x.outs.length) + 3 + 11 * x.cd.length := by
  unfold itP
  rw [show [tIt x.name, nIt (x.ty.length : Int)] = [tIt x.name] ++ [nIt (x.ty.length : Int)] from rfl]
  simp only [body_app, List.length_append, body_nums, body_cells _ _ h, body_one]
  have e1 : Wi.ib (tIt x.name) = 3 + x.name.length := by show 3 + (⟨x.name.toArray⟩ : ByteArray).size = _; show 3 + x.name.toArray.size = _; simp
  have e2 : Wi.ib (tIt (cdB x.cd)) = 3 + 11 * x.cd.length := by show 3 + (⟨(cdB x.cd).toArray⟩ : ByteArray).size = _; show 3 + (cdB x.cd).toArray.size = _; rw [List.size_toArray, cdB_length]
  have e3 : ∀ n, Wi.ib (nIt n) = 9 := fun n => rfl
  rw [e1, e2, e3, e3, e3]
  omega
set_option maxRecDepth 100000 in
set_option maxHeartbeats 1600000 in
theorem encode13_any (nm tv fv iv ov cv : Value) (x : Img) (w : World) (hg : GlC w) (hx : Im w nm tv fv iv ov cv x) (hcap : ∀ a n c, tv = .slice a n c → n ≤ c) (hl : ImL x) :
    Calls Tryz.prog 9 #[.agg #[nm, tv, fv, iv, ov, cv]] w fun e w' => e = .returned (.tuple #[.string ⟨(encP x).1.toArray⟩, .int .i64 (encP x).2]) ∧ Below w.heap.size w w' := by
  have HB1 : Hid (∀ A, Below w.heap.size w (w.alloc A)) := fun A => (Below.refl _ _).alloc (Nat.le_refl _) _
  have nxt : Hid (∀ A W, Below (w.alloc A).heap.size (w.alloc A) W → Below w.heap.size w W) := fun A W h => (HB1.out A).trans (h.mono (by simp))
  have m1 : Hid (∀ W, Below w.heap.size w W → Calls Tryz.prog 7 #[.agg #[nm, tv, fv, iv, ov, cv]] W fun e w' => e = .returned (.tuple #[.int .i64 (chkP x).1, .int .i64 (chkP x).2]) ∧ Below W.heap.size W w') := fun W hb => check_any nm tv fv iv ov cv x W (hg.on hb hg.lt) (hx.on hb) hcap hl
  have HE : Hid (encP x = if (chkP x).2 = 0 then (Wi.encL (itP x), Wi.encE (itP x)) else ([], (chkP x).2)) := rfl
  by_cases h0 : (chkP x).2 = 0
  · have hf := chk_ok h0
    have hF := frame_facts hf
    have m2 : Hid (∀ W, Below w.heap.size w W → Calls Tryz.prog 23 #[.agg #[nm, tv, fv, iv, ov, cv]] W fun e w' => ∃ v', e = .returned v' ∧ Wi.Lst w' v' (itP x) ∧ Below W.heap.size W w') := fun W hb => items_any nm tv fv iv ov cv x W (hx.on hb) hF.ty hF.fi hF.ins hF.outs hF.c1 hF.c2
    have m3 : Hid (∀ W v, Wi.Lst W v (itP x) → Calls Tryz.prog 22 #[v] W fun e w' => e = .returned (.tuple #[.string ⟨(Wi.encL (itP x)).toArray⟩, .int .i64 (Wi.encE (itP x))]) ∧ Below W.heap.size W w') := fun W v hL => Wi.encode_any v (itP x) W hL (items_fit hf)
    have HR : Hid (encP x = (Wi.encL (itP x), Wi.encE (itP x))) := by show _ = _; rw [HE.out, if_pos h0]
    rw [h0] at m1
    rw [HR.out]
    generalize (chkP x).1 = c1 at *
    generalize (⟨(Wi.encL (itP x)).toArray⟩ : ByteArray) = R at *
    generalize Wi.encE (itP x) = r at *
    clear HE h0 hf hF hg hx hcap hl HR
    go_enter Tryz.func9, Tryz.ntmps9
    go_wp2_with (first | (go_at_call 7; go_loud (refine (m1.out _ (HB1.out _)).mono ?_; rintro e w1 ⟨rfl, b1⟩; have B1 := hide (nxt.out _ _ b1); have q0 := (b1.cell (p := ⟨w.heap.size, 0, none⟩) (by simp)); have q1 := (b1.cell (p := ⟨w.heap.size, 1, none⟩) (by simp)); have q2 := (b1.cell (p := ⟨w.heap.size, 2, none⟩) (by simp)); have q3 := (b1.cell (p := ⟨w.heap.size, 3, none⟩) (by simp)); have q4 := (b1.cell (p := ⟨w.heap.size, 4, none⟩) (by simp)); have q5 := (b1.cell (p := ⟨w.heap.size, 5, none⟩) (by simp)); clear b1; simp [go_sem] at q0 q1 q2 q3 q4 q5)) | (go_at_call 23; refine (m2.out _ B1.out).mono ?_; rintro e w2 ⟨v2, rfl, hL2, b2⟩; have B2 := hide (B1.out.trans (b2.mono B1.out.size)); have M3 := hide (m3.out _ _ hL2); clear b2 hL2 q0 q1 q2 q3 q4 q5) | (go_at_call 22; refine M3.out.mono ?_; rintro e w3 ⟨rfl, b3⟩; have B3 := hide (B2.out.trans (b3.mono B2.out.size)); clear b3))
    go_ret2
    exact ⟨rfl, B3.out⟩
  · have HR : Hid (encP x = ([], (chkP x).2)) := by show _ = _; rw [HE.out, if_neg h0]
    rw [HR.out]
    have hb : ((chkP x).2 == 0) = false := by simpa using h0
    generalize (chkP x).1 = c1 at *
    generalize (chkP x).2 = c2 at *
    clear HE hg hx hcap hl HR
    go_enter Tryz.func9, Tryz.ntmps9
    go_wp2_with (go_at_call 7; refine (m1.out _ (HB1.out _)).mono ?_; rintro e w1 ⟨rfl, b1⟩; have B1 := hide (nxt.out _ _ b1); clear b1)
    go_ret2
    exact ⟨rfl, B1.out⟩
end Go.Proofs.YtmbgcpmapaedcaaGreatDoor
namespace Go.Proofs.YtmbgcpmapaedcaaGreatDoor
open Go.RowKit
open Wi (It itA ItsAt)
def img0 : Img := ⟨[], [], [], [], [], []⟩
/-- code.Decode's answer -/
def decP (b : List UInt8) : Img × Int := if (Wi.decB b).2.2 = 0 then (if encP (imgV (Wi.decB b).1) = (b, 0) then (imgV (Wi.decB b).1, 0) else (img0, 130)) else (img0, 130)
theorem lin_len (l : List It) : (linP l).1.length ≤ l.length := by
  unfold linP
  rw [takN_length]
  have := cntP_le l
  rw [List.length_tail] at this; omega
theorem img_len (l : List It) (h : l.length ≤ 1000) (hs : ∀ x ∈ l, x.s.size ≤ 65536) : ImL (imgV l) := by
  have hc : cntP l.tail ≤ 1000 := by have := cntP_le l.tail; rw [List.length_tail, List.length_tail] at this; omega
  have hr := rest_len l
  have h1 := lin_len (restP l)
  have h2 := lin_rest (restP l)
  have h3 := lin_len (linP (restP l)).2
  refine ⟨?_, ?_, ?_, ?_, ?_⟩
  · show (takP (cntP l.tail) l.tail.tail).1.1.length ≤ _
    rw [(takP_len _ _).1]; omega
  · show (takP (cntP l.tail) l.tail.tail).1.2.length ≤ _
    rw [(takP_len _ _).2]; omega
  · show (linP (restP l)).1.length ≤ _
    omega
  · show (linP (linP (restP l)).2).1.length ≤ _
    omega
  · show (cdV ((linP (linP (restP l)).2).2.headD it0).s.data.toList).length ≤ _
    unfold cdV
    rw [cdN_length]
    have h4 : ((linP (linP (restP l)).2).2.headD it0).s.data.toList.length ≤ 65536 := by
      rw [Wi.text_len]
      cases hh : (linP (linP (restP l)).2).2 with
      | nil => exact Nat.zero_le _
      | cons z r =>
        refine hs z ?_
        have hm : z ∈ (linP (linP (restP l)).2).2 := by rw [hh]; exact List.mem_cons_self
        unfold linP restP at hm
        rw [takN_rest, takN_rest, takP_rest] at hm
        exact List.mem_of_mem_tail (List.mem_of_mem_tail (List.mem_of_mem_drop (List.mem_of_mem_tail (List.mem_of_mem_drop (List.mem_of_mem_tail (List.mem_of_mem_drop hm))))))
    omega
theorem may_size {x : It} (h : Wi.mayB x = true) : x.s.size ≤ 65536 := by
  unfold Wi.mayB at h
  split at h
  · simp only [Bool.and_eq_true, decide_eq_true_eq] at h; omega
  · simp only [decide_eq_true_eq] at h; omega
theorem all_size : ∀ (l : List It), Wi.allMay l = true → ∀ x ∈ l, x.s.size ≤ 65536
  | [], _ => fun x hx => by cases hx
  | y :: l, h => fun x hx => by
    have h' : (Wi.mayB y && Wi.allMay l) = true := h
    rw [Bool.and_eq_true] at h'
    rcases List.mem_cons.1 hx with rfl | hx
    · exact may_size h'.1
    · exact all_size l h'.2 x hx
theorem im_none (w : World) : Im w (.string ⟨#[]⟩) (.slice none 0 0) (.slice none 0 0) (.slice none 0 0) (.slice none 0 0) (.slice none 0 0) img0 :=
  ⟨rfl, ILst.nil w 0, ILst.nil w 0, ILst.nil w 0, ILst.nil w 0, ISt.nil w 0⟩
theorem six {W : World} {Z : Nat} {a b c d e f : Value} (h : W.heap[Z]? = some (.cells #[a, b, c, d, e, f] 26 (0, 0))) : W.cell? ⟨Z, 0, none⟩ = some a ∧ W.cell? ⟨Z, 1, none⟩ = some b ∧ W.cell? ⟨Z, 2, none⟩ = some c ∧ W.cell? ⟨Z, 3, none⟩ = some d ∧ W.cell? ⟨Z, 4, none⟩ = some e ∧ W.cell? ⟨Z, 5, none⟩ = some f ∧ ∀ j, W.frozen? ⟨Z, j, none⟩ = false :=
  ⟨(Lib.cell_of_heap (j := 0) h).trans rfl, (Lib.cell_of_heap (j := 1) h).trans rfl, (Lib.cell_of_heap (j := 2) h).trans rfl, (Lib.cell_of_heap (j := 3) h).trans rfl, (Lib.cell_of_heap (j := 4) h).trans rfl, (Lib.cell_of_heap (j := 5) h).trans rfl, fun j => Lib.frozen_of_heap h j⟩
/-- what Decode leaves -/
def DecQ (x : Img) (c : Int) (w : World) (e : Ending) (w' : World) : Prop :=
  ∃ nm tv fv iv ov cv, e = .returned (.tuple #[.agg #[nm, tv, fv, iv, ov, cv], .int .i64 c]) ∧ ImF w.heap.size w' nm tv fv iv ov cv x ∧ (∀ a n c, tv = .slice a n c → n ≤ c) ∧ Below w.heap.size w w'
set_option maxRecDepth 100000 in
set_option maxHeartbeats 1600000 in
theorem decode13_any (s : ByteArray) (hs : s.size ≤ 140737488355328) (w : World) (hg : GlC w) (hw : Wi.Glo w) :
    Calls Tryz.prog 14 #[.string s] w (DecQ (decP s.data.toList).1 (decP s.data.toList).2 w) := by
  have HB1 : Hid (∀ A, Below w.heap.size w (w.alloc A)) := fun A => (Below.refl _ _).alloc (Nat.le_refl _) _
  have zg := hg.lt
  have zw := hw.lt
  have m1 : Hid (∀ W, Below w.heap.size w W → Calls Tryz.prog 29 #[.string s] W (Wi.DecOut s.data.toList W)) := fun W hb => Wi.decode_any s hs W (hw.below hb zw)
  have HP : Hid (decP s.data.toList = if (Wi.decB s.data.toList).2.2 = 0 then (if encP (imgV (Wi.decB s.data.toList).1) = (s.data.toList, 0) then (imgV (Wi.decB s.data.toList).1, 0) else (img0, 130)) else (img0, 130)) := rfl
  have HG := hide hg
  obtain ⟨Z, hZ⟩ : ∃ Z, Z = w.heap.size := ⟨_, rfl⟩
  generalize decP s.data.toList = R at *
  obtain ⟨rx, rc⟩ := R
  clear hg hw hs
  go_enter Tryz.func14, Tryz.ntmps14
  go_wp2_with fail
  refine (m1.out _ (HB1.out _)).mono ?_
  rintro e w1 ⟨v, l, p, c, hd, rfl, ho1, hb1⟩
  rw [hd] at HP
  have HD := hide hd
  clear hd m1
  have B1 := hide ((HB1.out _).trans (hb1.mono (by simp)))
  have hres := (hb1.block w.heap.size (by simp)).trans (heap_alloc_new w _)
  have z1 := hb1.size
  simp only [World.size_alloc] at z1
  have O1 := hide ho1
  obtain ⟨va, vc, hv, -⟩ := owns_slice ho1
  obtain ⟨n, hn⟩ : ∃ n, n = l.length := ⟨_, rfl⟩
  rw [← hn] at hv
  have HN := hide hn
  subst hv
  have RES := hide hres
  clear hb1 hres ho1 hn
  by_cases hc : c = 0
  · subst hc
    obtain ⟨h0, hE, hby, hfit⟩ := Wi.enc_dec _ l p HD.out
    obtain ⟨hl, hall, hlen⟩ := Wi.encE_zero hE
    have hsz := all_size l hall
    have hL := img_len l hl hsz
    subst h0
    have m2 : Hid (∀ W, W.ownsRow 0 61 3 (.slice va n vc) l.length (Wi.itsC l) → Calls Tryz.prog 30 #[.slice va n vc] W fun e w' => ∃ tv fv iv ov cv, e = .returned (.agg #[.string ⟨(imgV l).name.toArray⟩, tv, fv, iv, ov, cv]) ∧ ImF W.heap.size w' (.string ⟨(imgV l).name.toArray⟩) tv fv iv ov cv (imgV l) ∧ (∀ a n c, tv = .slice a n c → n ≤ c) ∧ Below W.heap.size W w') := fun W h => image_any _ l W h hl hsz
    have m3 : Hid (∀ W nm tv fv iv ov cv, Below w.heap.size w W → Im W nm tv fv iv ov cv (imgV l) → (∀ a n c, tv = .slice a n c → n ≤ c) → Calls Tryz.prog 9 #[.agg #[nm, tv, fv, iv, ov, cv]] W fun e w' => e = .returned (.tuple #[.string ⟨(encP (imgV l)).1.toArray⟩, .int .i64 (encP (imgV l)).2]) ∧ Below W.heap.size W w') := fun W nm tv fv iv ov cv hb hI hc => encode13_any nm tv fv iv ov cv _ W (HG.out.on hb zg) hI hc hL
    have HQ : Hid ((rx, rc) = if encP (imgV l) = (s.data.toList, 0) then (imgV l, 0) else (img0, 130)) := by show _ = _; rw [HP.out]; rfl
    clear hL hsz hall hlen hby hfit hE HP HD
    obtain ⟨nS, hnS⟩ : ∃ nS : ByteArray, nS = ⟨(imgV l).name.toArray⟩ := ⟨_, rfl⟩
    rw [← hnS] at m2
    clear hnS
    go_wp2_with fail
    refine (m2.out _ (Wi.owns_base (O1.out.alloc _) (Nat.zero_le _))).mono ?_
    rintro e w3 ⟨tv, fv, iv, ov, cv, rfl, hI3, hc3, hb3⟩
    obtain ⟨ta, tc, rfl⟩ := hI3.im.ty.shape
    obtain ⟨fa, fc, rfl⟩ := hI3.im.fi.shape
    obtain ⟨ia, ic, rfl⟩ := hI3.im.ins.shape
    obtain ⟨oa, oc, rfl⟩ := hI3.im.outs.shape
    obtain ⟨ca, cc, rfl⟩ := hI3.im.cd.shape
    have B3 := hide ((B1.out.alloc B1.out.size _).trans (hb3.mono (by simp; omega)))
    have R3 := hide ((hb3.block w.heap.size (by simp; omega)).trans ((heap_alloc_old _ _ (by omega)).trans RES.out))
    rw [World.size_alloc] at hI3
    have I3 := hide hI3
    have C3 := hide hc3
    have z3 := hb3.size
    simp only [World.size_alloc] at z3
    clear hI3 hc3 hb3 m2
    obtain ⟨tn, htn⟩ : ∃ n, n = (imgV l).ty.length := ⟨_, rfl⟩
    obtain ⟨fn, hfn⟩ : ∃ n, n = (imgV l).fi.length := ⟨_, rfl⟩
    obtain ⟨in_, hin⟩ : ∃ n, n = (imgV l).ins.length := ⟨_, rfl⟩
    obtain ⟨on_, hon⟩ : ∃ n, n = (imgV l).outs.length := ⟨_, rfl⟩
    obtain ⟨cn, hcn⟩ : ∃ n, n = (imgV l).cd.length := ⟨_, rfl⟩
    rw [← htn, ← hfn, ← hin, ← hon, ← hcn] at I3 ⊢
    rw [← htn] at C3
    clear htn hfn hin hon hcn
    have M3 := hide (m3.out (w3.alloc (.cells #[.string nS, .slice ta tn tc, .slice fa fn fc, .slice ia in_ ic, .slice oa on_ oc, .slice ca cn cc] 26)) _ _ _ _ _ _ (B3.out.alloc B3.out.size _) (I3.out.on ((Below.refl _ _).alloc (Nat.le_refl _) _)).im C3.out)
    clear m3
    go_wp2_with fail
    refine M3.out.mono ?_
    rintro e w4 ⟨rfl, hb4⟩
    have B4 := hide ((B3.out.alloc B3.out.size _).trans (hb4.mono (by simp; omega)))
    have R4 := hide ((hb4.block w.heap.size (by simp; omega)).trans ((heap_alloc_old _ _ (by omega)).trans R3.out))
    have X4 := hide ((hb4.block w3.heap.size (by simp)).trans (heap_alloc_new w3 _))
    have I4 := hide ((I3.out.on ((Below.refl _ _).alloc (Nat.le_refl _) _)).on hb4)
    have z4 := hb4.size
    simp only [World.size_alloc] at z4
    obtain ⟨q0, q1, q2, q3, q4, q5, qf⟩ := six R4.out
    obtain ⟨x0, x1, x2, x3, x4, x5, -⟩ := six X4.out
    have HT : Hid ((encP (imgV l)).1 = s.data.toList ↔ (⟨(encP (imgV l)).1.toArray⟩ : ByteArray) = s) := ⟨fun h => (Wi.of_list s _ h.symm).symm, fun h => by rw [← h]⟩
    have HV : Hid (encP (imgV l) = (s.data.toList, 0) ↔ (encP (imgV l)).1 = s.data.toList ∧ (encP (imgV l)).2 = 0) := Prod.ext_iff
    obtain ⟨E1, hE1⟩ : ∃ E1 : ByteArray, E1 = ⟨(encP (imgV l)).1.toArray⟩ := ⟨_, rfl⟩
    rw [← hE1] at HT ⊢
    clear hb4 M3 B3 R3 hE1
    by_cases h0 : (encP (imgV l)).2 = 0
    · rw [h0]
      by_cases h1 : E1 = s
      · have HR : Hid ((rx, rc) = (imgV l, 0)) := by show _ = _; rw [HQ.out]; exact if_pos (HV.out.2 ⟨HT.out.2 h1, h0⟩)
        obtain ⟨rfl, rfl⟩ := Prod.mk.inj HR.out
        subst h1
        clear HQ HV HT h0 HR
        go_wp2_with fail
        clear q0 q1 q2 q3 q4 q5 qf x0 x1 x2 x3 x4 x5
        obtain ⟨W, hW⟩ : ∃ W, W = set6 w4 w.heap.size (.string nS) (.slice ta tn tc) (.slice fa fn fc) (.slice ia in_ ic) (.slice oa on_ oc) (.slice ca cn cc) := ⟨_, rfl⟩
        have hr : W.heap[w.heap.size]? = some (.cells #[.string nS, .slice ta tn tc, .slice fa fn fc, .slice ia in_ ic, .slice oa on_ oc, .slice ca cn cc] 26 (0, 0)) := by rw [hW]; exact heap6 R4.out
        have bW : Below w.heap.size w W := by rw [hW]; exact below6 B4.out (Nat.le_refl _)
        have iW : ImF (w1.heap.size + 1) W (.string nS) (.slice ta tn tc) (.slice fa fn fc) (.slice ia in_ ic) (.slice oa on_ oc) (.slice ca cn cc) (imgV l) := by rw [hW]; exact I4.out.set6 (by omega)
        unfold set6 at hW
        rw [← hW]
        obtain ⟨e0, e1, e2, e3, e4, e5, -⟩ := six hr
        refine bodyPost_ret (v := .tuple #[.agg #[.string nS, .slice ta tn tc, .slice fa fn fc, .slice ia in_ ic, .slice oa on_ oc, .slice ca cn cc], .int .i64 0]) (by simp [results, Tryz.results14, go_sem, e0, e1, e2, e3, e4, e5]) rfl ⟨_, _, _, _, _, _, rfl, iW.drop (by omega), C3.out, bW⟩
      · have HR : Hid ((rx, rc) = (img0, 130)) := by show _ = _; rw [HQ.out]; exact if_neg (fun h => h1 (HT.out.1 (HV.out.1 h).1))
        obtain ⟨rfl, rfl⟩ := Prod.mk.inj HR.out
        have hb : (E1.toList == s.toList) = false := by rw [Wi.beq_text]; exact decide_eq_false h1
        clear HQ HV HT h0 HR
        go_wp2_with fail
        clear q0 q1 q2 q3 q4 q5 qf x0 x1 x2 x3 x4 x5
        obtain ⟨W, hW⟩ : ∃ W, W = set6 w4 w.heap.size (.string ⟨#[]⟩) (.slice none 0 0) (.slice none 0 0) (.slice none 0 0) (.slice none 0 0) (.slice none 0 0) := ⟨_, rfl⟩
        have hr : W.heap[w.heap.size]? = some (.cells #[.string ⟨#[]⟩, .slice none 0 0, .slice none 0 0, .slice none 0 0, .slice none 0 0, .slice none 0 0] 26 (0, 0)) := by rw [hW]; exact heap6 R4.out
        have bW : Below w.heap.size w W := by rw [hW]; exact below6 B4.out (Nat.le_refl _)
        unfold set6 at hW
        rw [← hW]
        obtain ⟨e0, e1, e2, e3, e4, e5, -⟩ := six hr
        refine bodyPost_ret (v := .tuple #[.agg #[.string ⟨#[]⟩, .slice none 0 0, .slice none 0 0, .slice none 0 0, .slice none 0 0, .slice none 0 0], .int .i64 130]) (by simp [results, Tryz.results14, go_sem, e0, e1, e2, e3, e4, e5]) rfl ⟨_, _, _, _, _, _, rfl, fun W' _ => im_none W', fun a n c h => by cases h; exact Nat.le_refl 0, bW⟩
    · have hb : ((encP (imgV l)).2 == 0) = false := by simpa using h0
      have HR : Hid ((rx, rc) = (img0, 130)) := by show _ = _; rw [HQ.out]; exact if_neg (fun h => h0 (HV.out.1 h).2)
      obtain ⟨rfl, rfl⟩ := Prod.mk.inj HR.out
      clear HQ HV HT HR
      go_wp2_with fail
      clear q0 q1 q2 q3 q4 q5 qf x0 x1 x2 x3 x4 x5
      obtain ⟨W, hW⟩ : ∃ W, W = set6 w4 w.heap.size (.string ⟨#[]⟩) (.slice none 0 0) (.slice none 0 0) (.slice none 0 0) (.slice none 0 0) (.slice none 0 0) := ⟨_, rfl⟩
      have hr : W.heap[w.heap.size]? = some (.cells #[.string ⟨#[]⟩, .slice none 0 0, .slice none 0 0, .slice none 0 0, .slice none 0 0, .slice none 0 0] 26 (0, 0)) := by rw [hW]; exact heap6 R4.out
      have bW : Below w.heap.size w W := by rw [hW]; exact below6 B4.out (Nat.le_refl _)
      unfold set6 at hW
      rw [← hW]
      obtain ⟨e0, e1, e2, e3, e4, e5, -⟩ := six hr
      refine bodyPost_ret (v := .tuple #[.agg #[.string ⟨#[]⟩, .slice none 0 0, .slice none 0 0, .slice none 0 0, .slice none 0 0, .slice none 0 0], .int .i64 130]) (by simp [results, Tryz.results14, go_sem, e0, e1, e2, e3, e4, e5]) rfl ⟨_, _, _, _, _, _, rfl, fun W' _ => im_none W', fun a n c h => by cases h; exact Nat.le_refl 0, bW⟩
  · have hcb : (c == 0) = false := by simpa using hc
    have HR : Hid ((rx, rc) = (img0, 130)) := by show _ = _; rw [HP.out]; exact if_neg hc
    clear hc HP
    obtain ⟨rfl, rfl⟩ := Prod.mk.inj HR.out
    have hA : ∀ A, (w1.alloc A).heap[w.heap.size]? = some (.cells #[.string ⟨#[]⟩, .slice none 0 0, .slice none 0 0, .slice none 0 0, .slice none 0 0, .slice none 0 0] 26 (0, 0)) := fun A => (heap_alloc_old _ _ (by omega)).trans RES.out
    obtain ⟨w2, hw2⟩ : ∃ w2, w2 = w1.alloc (.cells #[.int .i64 (p : Int), .int .i64 c] 51) := ⟨_, rfl⟩
    have h2 : w2.heap[w.heap.size]? = some (.cells #[.string ⟨#[]⟩, .slice none 0 0, .slice none 0 0, .slice none 0 0, .slice none 0 0, .slice none 0 0] 26 (0, 0)) := by rw [hw2]; exact hA _
    obtain ⟨q0, q1, q2, q3, q4, q5, qf⟩ := six h2
    have B2 := hide (show Below w.heap.size w w2 by rw [hw2]; exact B1.out.alloc B1.out.size _)
    have H2 := hide h2
    have HW2 := hide hw2
    rw [hw2] at q0 q1 q2 q3 q4 q5 qf
    clear hA h2 hw2
    go_wp2_with fail
    clear q0 q1 q2 q3 q4 q5 qf
    rw [← HW2.out]
    obtain ⟨W, hW⟩ : ∃ W, W = set6 w2 w.heap.size (.string ⟨#[]⟩) (.slice none 0 0) (.slice none 0 0) (.slice none 0 0) (.slice none 0 0) (.slice none 0 0) := ⟨_, rfl⟩
    have hr : W.heap[w.heap.size]? = some (.cells #[.string ⟨#[]⟩, .slice none 0 0, .slice none 0 0, .slice none 0 0, .slice none 0 0, .slice none 0 0] 26 (0, 0)) := by rw [hW]; exact heap6 H2.out
    have bW : Below w.heap.size w W := by rw [hW]; exact below6 B2.out (Nat.le_refl _)
    unfold set6 at hW
    rw [← hW]
    obtain ⟨e0, e1, e2, e3, e4, e5, -⟩ := six hr
    refine bodyPost_ret (v := .tuple #[.agg #[.string ⟨#[]⟩, .slice none 0 0, .slice none 0 0, .slice none 0 0, .slice none 0 0, .slice none 0 0], .int .i64 130]) (by simp [results, Tryz.results14, go_sem, e0, e1, e2, e3, e4, e5]) rfl ⟨_, _, _, _, _, _, rfl, fun W' _ => im_none W', fun a n c h => by cases h; exact Nat.le_refl 0, bW⟩
end Go.Proofs.YtmbgcpmapaedcaaGreatDoor
