/- Images there and back, plain. -/
import Derived.Test.YtmbgcpmapaedcaaGreatDoorMg27
import Derived.Test.YtmbgcpmapaedcaaGreatDoorMg6
namespace Go.Proofs.YtmbgcpmapaedcaaGreatDoor
open Go.RowKit
open Wi (It numV)
theorem by_nat (n : Int) (j : Nat) : ((byI n j).toNat : Int) = n / 2 ^ (8 * j) % 256 := by
  unfold byI
  rw [Wi.byte_of]
  have h0 : 0 ≤ n / 2 ^ (8 * j) % 256 := Int.emod_nonneg _ (by decide)
  have h1 : n / 2 ^ (8 * j) % 256 < 256 := Int.emod_lt_of_pos _ (by decide)
  generalize n / 2 ^ (8 * j) % 256 = z at *
  omega
theorem two_back (a : Int) (h0 : 0 ≤ a) (h1 : a < 65536) : ((numV (hiB a 2) 0 : Nat) : Int) = a := by
  have e1 := by_nat a 1
  have e0 := by_nat a 0
  show ((numV [byI a 1, byI a 0] 0 : Nat) : Int) = a
  simp only [numV]
  generalize (byI a 1).toNat = p at *
  generalize (byI a 0).toNat = q at *
  omega
theorem six_back (n : Int) (h0 : -140737488355328 ≤ n) (h1 : n < 140737488355328) : sg48 (numV (hiB n 6) 0) = n := by
  have e5 := by_nat n 5
  have e4 := by_nat n 4
  have e3 := by_nat n 3
  have e2 := by_nat n 2
  have e1 := by_nat n 1
  have e0 := by_nat n 0
  have hv : ((numV (hiB n 6) 0 : Nat) : Int) = n % 281474976710656 := by
    show ((numV [byI n 5, byI n 4, byI n 3, byI n 2, byI n 1, byI n 0] 0 : Nat) : Int) = _
    simp only [numV]
    generalize (byI n 5).toNat = p5 at *
    generalize (byI n 4).toNat = p4 at *
    generalize (byI n 3).toNat = p3 at *
    generalize (byI n 2).toNat = p2 at *
    generalize (byI n 1).toNat = p1 at *
    generalize (byI n 0).toNat = p0 at *
    omega
  unfold sg48
  generalize numV (hiB n 6) 0 = m at *
  split <;> omega
/-- what fits an instruction's bytes -/
structure InsR (i : Ins) : Prop where
  o0 : 0 ≤ i.op
  o1 : i.op < 256
  a0 : 0 ≤ i.a
  a1 : i.a < 65536
  b0 : 0 ≤ i.b
  b1 : i.b < 65536
  n0 : -140737488355328 ≤ i.n
  n1 : i.n < 140737488355328
theorem ins_back (i : Ins) (h : InsR i) (r : List UInt8) : insV (insB i ++ r) = i := by
  obtain ⟨o, a, b, n⟩ := i
  have hd : ((insB ⟨o, a, b, n⟩ ++ r).headD 0).toNat = o.toNat := by
    show (UInt8.ofNat (o % 256).toNat).toNat = _
    rw [Wi.byte_of]
    have := h.o0; have := h.o1
    simp only at *
    omega
  have h1 : ((insB ⟨o, a, b, n⟩ ++ r).drop 1).take 2 = hiB a 2 := rfl
  have h2 : ((insB ⟨o, a, b, n⟩ ++ r).drop 3).take 2 = hiB b 2 := rfl
  have h3 : ((insB ⟨o, a, b, n⟩ ++ r).drop 5).take 6 = hiB n 6 := rfl
  unfold insV
  rw [hd, h1, h2, h3, two_back a h.a0 h.a1, two_back b h.b0 h.b1, six_back n h.n0 h.n1]
  congr 1
  have := h.o0
  simp only at this
  omega
theorem cd_back : ∀ (l : List Ins), (∀ i ∈ l, InsR i) → cdN l.length (cdB l) = l
  | [], _ => rfl
  | i :: l, h => by
    have e : cdB (i :: l) = insB i ++ cdB l := by unfold cdB; rw [List.flatMap_cons]
    rw [List.length_cons, cdN, e, ins_back i (h i List.mem_cons_self), List.drop_left' (insB_length i), cd_back l (fun j hj => h j (List.mem_cons_of_mem _ hj))]
theorem cdV_back (l : List Ins) (h : ∀ i ∈ l, InsR i) : cdV (cdB l) = l := by
  unfold cdV
  rw [cdB_length, Nat.mul_div_cancel_left _ (by decide : 0 < 11)]
  exact cd_back l h
theorem in_lt {c : Int} {n : Nat} (h : inB c n = true) : 0 ≤ c ∧ c < (n : Int) := by
  unfold inB at h
  simpa using h
theorem ty_lt {t : Int} (h : Four.tyB t = true) : 1 ≤ t ∧ t ≤ 4 := by
  unfold Four.tyB at h
  simpa using h
theorem arr_lt {ty : List Int} {a b : Int} (h : arrB ty a b = true) : 0 ≤ a ∧ a < (ty.length : Int) ∧ 1 ≤ b ∧ b ≤ 32 := by
  unfold arrB fromB at h
  simp only [Bool.and_eq_true, decide_eq_true_eq] at h
  obtain ⟨h1, h2, ⟨h3, -⟩, -⟩ := h
  have := in_lt h3
  omega
theorem blk_lt {ty : List Int} {a b : Int} (h : blkB ty a b = true) : 1 ≤ a ∧ a ≤ 10 ∧ 0 ≤ b ∧ b < (ty.length : Int) := by
  unfold blkB fromB at h
  simp only [Bool.and_eq_true] at h
  obtain ⟨h1, ⟨h3, -⟩, -⟩ := h
  have := in_lt h3
  have := (kindOk_iff a).1 h1
  omega
theorem may_range {ty : List Int} {m : Nat} {i : Ins} (ht : ty.length ≤ 1024) (hm : m ≤ 4096) (h : mayI ty m i = true) : InsR i := by
  obtain ⟨o, a, b, n⟩ := i
  unfold mayI at h
  simp only [Bool.and_eq_true, decide_eq_true_eq] at h
  obtain ⟨⟨h1, h2⟩, hz, hr⟩ := h
  unfold zeroB at hz
  have ho : o = 1 ∨ o = 2 ∨ o = 3 ∨ o = 4 ∨ o = 5 ∨ o = 6 ∨ o = 7 ∨ o = 8 ∨ o = 9 ∨ o = 10 ∨ o = 11 ∨ o = 12 := by omega
  have fin : 0 ≤ a → a < 65536 → 0 ≤ b → b < 65536 → -140737488355328 ≤ n → n < 140737488355328 → InsR ⟨o, a, b, n⟩ := fun p q r s t u => ⟨by show 0 ≤ o; omega, by show o < 256; omega, p, q, r, s, t, u⟩
  rcases ho with rfl | rfl | rfl | rfl | rfl | rfl | rfl | rfl | rfl | rfl | rfl | rfl <;> simp [hasN] at hz <;> simp [rightB] at hr
  · have := fit_small hr; apply fin <;> omega
  · have := in_lt hr; apply fin <;> omega
  · have := in_lt hr; apply fin <;> omega
  · have h9 := arr_lt hr; apply fin <;> omega
  · have h9 := arr_lt hr; apply fin <;> omega
  · have h8 := Four.has2_op hr
    have h9 : 1 ≤ b ∧ b ≤ 4 := by
      unfold Four.has2 at hr
      rw [Bool.and_eq_true] at hr
      exact ty_lt hr.1
    apply fin <;> omega
  · have h8 := Four.has1_op hr
    have h9 : 1 ≤ b ∧ b ≤ 4 := by
      unfold Four.has1 at hr
      rw [Bool.and_eq_true] at hr
      exact ty_lt hr.1
    apply fin <;> omega
  · have h8 := ty_lt hr.1
    have h9 := ty_lt hr.2.1
    apply fin <;> omega
  · have := in_lt hr; apply fin <;> omega
  · have := in_lt hr; apply fin <;> omega
  · have h9 := blk_lt hr; apply fin <;> omega
  · apply fin <;> omega
theorem takP_cells : ∀ (ty fi : List Int) (r : List It), fi.length = ty.length → takP ty.length (cellIt ty fi ++ r) = ((ty, fi), r)
  | [], fi, r, h => by
    obtain rfl := List.eq_nil_of_length_eq_zero h
    rfl
  | t :: ty, [], r, h => by cases h
  | t :: ty, f :: fi, r, h => by
    have e : cellIt (t :: ty) (f :: fi) ++ r = nIt t :: nIt f :: (cellIt ty fi ++ r) := by unfold cellIt; rfl
    rw [List.length_cons, takP, e]
    show (((nIt t).n :: (takP ty.length (cellIt ty fi ++ r)).1.1, (nIt f).n :: (takP ty.length (cellIt ty fi ++ r)).1.2), (takP ty.length (cellIt ty fi ++ r)).2) = _
    rw [takP_cells ty fi r (by simpa using h)]; rfl
theorem takN_nums : ∀ (l : List Int) (r : List It), takN l.length (l.map nIt ++ r) = (l, r)
  | [], r => rfl
  | x :: l, r => by
    rw [List.length_cons, takN]
    show ((nIt x).n :: (takN l.length (l.map nIt ++ r)).1, (takN l.length (l.map nIt ++ r)).2) = _
    rw [takN_nums l r]; rfl
theorem cnt_of (k : Nat) (r : List It) (h : k ≤ r.length) : cntP (nIt (k : Int) :: r) = k := by
  show min (max (k : Int) 0).toNat r.length = k
  omega
theorem linP_of (l : List Int) (r : List It) : linP (nIt (l.length : Int) :: (l.map nIt ++ r)) = (l, r) := by
  unfold linP
  rw [cnt_of _ _ (by rw [List.length_append, List.length_map]; omega)]
  exact takN_nums l r
theorem cell_len : ∀ (ty fi : List Int), fi.length = ty.length → (cellIt ty fi).length = 2 * ty.length
  | [], _, _ => rfl
  | t :: ty, [], h => by cases h
  | t :: ty, f :: fi, h => by
    have e : cellIt (t :: ty) (f :: fi) = nIt t :: nIt f :: cellIt ty fi := by unfold cellIt; rfl
    rw [e, List.length_cons, List.length_cons, cell_len ty fi (by simpa using h), List.length_cons]; omega
theorem img_back (x : Img) (hf : x.fi.length = x.ty.length) (hc : ∀ i ∈ x.cd, InsR i) : imgV (itP x) = x := by
  obtain ⟨nm, ty, fi, ins, outs, cd⟩ := x
  simp only at hf hc
  have e : itP ⟨nm, ty, fi, ins, outs, cd⟩ = tIt nm :: nIt (ty.length : Int) :: (cellIt ty fi ++ (nIt (ins.length : Int) :: (ins.map nIt ++ (nIt (outs.length : Int) :: (outs.map nIt ++ [tIt (cdB cd)]))))) := by
    unfold itP
    simp only [List.append_assoc, List.cons_append, List.nil_append]
  have e1 : cntP (itP ⟨nm, ty, fi, ins, outs, cd⟩).tail = ty.length := by
    rw [e]
    exact cnt_of _ _ (by rw [List.length_append, cell_len ty fi hf]; omega)
  have e2 : takP ty.length (itP ⟨nm, ty, fi, ins, outs, cd⟩).tail.tail = ((ty, fi), nIt (ins.length : Int) :: (ins.map nIt ++ (nIt (outs.length : Int) :: (outs.map nIt ++ [tIt (cdB cd)])))) := by
    rw [e]
    exact takP_cells ty fi _ hf
  have e3 : restP (itP ⟨nm, ty, fi, ins, outs, cd⟩) = nIt (ins.length : Int) :: (ins.map nIt ++ (nIt (outs.length : Int) :: (outs.map nIt ++ [tIt (cdB cd)]))) := by unfold restP; rw [e1, e2]
  unfold imgV
  rw [e1, e2, e3, linP_of, linP_of]
  have e4 : ((itP ⟨nm, ty, fi, ins, outs, cd⟩).headD it0).s.data.toList = nm := by rw [e]; rfl
  rw [e4]
  show Img.mk nm ty fi ins outs (cdV (cdB cd)) = _
  rw [cdV_back cd hc]
theorem bad_none {ty : List Int} {m : Nat} : ∀ {l : List Ins} {k : Nat}, badAt ty m k l = none → ∀ i ∈ l, mayI ty m i = true
  | [], _, _ => fun i hi => by cases hi
  | j :: l, k, h => fun i hi => by
    cases hm : mayI ty m j with
    | false => rw [bad_here hm] at h; cases h
    | true =>
      rw [bad_next hm] at h
      rcases List.mem_cons.1 hi with rfl | hi
      · exact hm
      · exact bad_none h i hi
theorem chk_all {x : Img} (h : (chkP x).2 = 0) : ∀ i ∈ x.cd, mayI x.ty x.cd.length i = true := by
  have hf := chk_ok h
  unfold chkP at h
  rw [hf] at h
  simp only [if_true] at h
  cases hb : badAt x.ty x.cd.length 0 x.cd with
  | none => exact bad_none hb
  | some k => rw [hb] at h; exact absurd h (by show ¬ (130 : Int) = 0; decide)
theorem enc_chk {x : Img} (h : (encP x).2 = 0) : (chkP x).2 = 0 ∧ encP x = (Wi.bytesB (itP x), 0) ∧ Wi.encE (itP x) = 0 := by
  unfold encP at h ⊢
  by_cases h0 : (chkP x).2 = 0
  · rw [if_pos h0] at h ⊢
    have h' : Wi.encE (itP x) = 0 := h
    refine ⟨h0, ?_, h'⟩
    unfold Wi.encL
    rw [if_pos h', h']
  · rw [if_neg h0] at h
    exact absurd h h0
/-- what is encoded is decoded as the image -/
theorem dec_enc13 {x : Img} (h : (encP x).2 = 0) : decP (encP x).1 = (x, 0) := by
  obtain ⟨hc, he, hE⟩ := enc_chk h
  have hf := chk_ok hc
  have hF := frame_facts hf
  have hd : Wi.decB (encP x).1 = (itP x, 0, 0) := by rw [he]; exact Wi.dec_enc _ hE (items_fit hf).2
  have hi : imgV (itP x) = x := img_back x hF.fi (fun i hi => may_range hF.ty hF.c2 (chk_all hc i hi))
  unfold decP
  rw [hd]
  simp only [if_true]
  rw [hi, if_pos (by rw [he])]
/-- what is decoded is encoded as just those bytes -/
theorem enc_dec13 (b : List UInt8) : ((decP b).2 = 0 ∧ encP (decP b).1 = (b, 0)) ∨ decP b = (img0, 130) := by
  unfold decP
  split
  · split
    · rename_i h; exact .inl ⟨rfl, h⟩
    · exact .inr rfl
  · exact .inr rfl
end Go.Proofs.YtmbgcpmapaedcaaGreatDoor
