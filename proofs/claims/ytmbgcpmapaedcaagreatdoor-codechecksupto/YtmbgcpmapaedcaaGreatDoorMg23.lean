/- code: itemsOf. | code: codeOf. -/
import Derived.Test.YtmbgcpmapaedcaaGreatDoorMg22
import Derived.Test.YtmbgcpmapaedcaaGreatDoorMg21
namespace Go.Proofs.YtmbgcpmapaedcaaGreatDoor
open Go.RowKit
open Wi (App encB It itC itsC)
theorem owns_below {w w' : World} {base e size n : Nat} {v : Value} {xs : List Value} (h : w.ownsRow base e size v n xs) (hb : Below w.heap.size w w') : w'.ownsRow base e size v n xs :=
  h.kept (row := none) ⟨hb.os, hb.tape, hb.output, hb.size, fun k hk _ => hb.block k hk⟩ (by cases hv : v.ownBlock <;> simp)
theorem its_two (l : List It) (x y : It) : itsC (l ++ [x, y]) = itsC l ++ [.bool x.t, .int .i64 x.n, .string x.s, .bool y.t, .int .i64 y.n, .string y.s] := by
  rw [Wi.itsC_append]; rfl
set_option maxRecDepth 100000 in
set_option maxHeartbeats 3200000 in
theorem items_any (nm tv fv iv ov cv : Value) (x : Img) (w : World) (hx : Im w nm tv fv iv ov cv x) (ht : x.ty.length ≤ 1024) (hf : x.fi.length = x.ty.length) (hil : x.ins.length ≤ 1024) (hol : x.outs.length ≤ 1024) (hc1 : 1 ≤ x.cd.length) (hc : x.cd.length ≤ 4096) :
    Calls Tryz.prog 23 #[.agg #[nm, tv, fv, iv, ov, cv]] w fun e w' => ∃ v', e = .returned v' ∧ Wi.Lst w' v' (itP x) ∧ Below w.heap.size w w' := by
  obtain ⟨i0, hi, hz0, hz1, hz2⟩ := info_parts inIt
  obtain ⟨base, hbs⟩ : ∃ base, base = w.heap.size + 1 := ⟨_, rfl⟩
  obtain ⟨S, hS⟩ : ∃ S : ByteArray, S = ⟨x.name.toArray⟩ := ⟨_, rfl⟩
  have hnm : nm = .string S := by rw [hS]; exact hx.name
  have HS : Hid (tIt x.name = ⟨true, 0, S⟩) := by show _ = _; rw [hS]; rfl
  subst hnm
  clear hS
  have l1 : Hid (∀ (v : Value) (k : Nat) (l : List It) (W : World), Below w.heap.size w W → W.ownsRow base 61 3 v k (itsC l) → base ≤ W.heap.size → k ≤ 10000 → Calls Tryz.prog 53 #[v, iv] W fun e w' => ∃ v', e = .returned v' ∧ w'.ownsRow base 61 3 v' (k + 1 + x.ins.length) (itsC ((l ++ [nIt (x.ins.length : Int)]) ++ x.ins.map nIt)) ∧ Below base W w') := fun v k l W hb ho hB hk => lines2_any base v k l iv x.ins w W hx.ins hb (by omega) ho hB hk hil
  have l2 : Hid (∀ (v : Value) (k : Nat) (l : List It) (W : World), Below w.heap.size w W → W.ownsRow base 61 3 v k (itsC l) → base ≤ W.heap.size → k ≤ 10000 → Calls Tryz.prog 53 #[v, ov] W fun e w' => ∃ v', e = .returned v' ∧ w'.ownsRow base 61 3 v' (k + 1 + x.outs.length) (itsC ((l ++ [nIt (x.outs.length : Int)]) ++ x.outs.map nIt)) ∧ Below base W w') := fun v k l W hb ho hB hk => lines2_any base v k l ov x.outs w W hx.outs hb (by omega) ho hB hk hol
  have l3 : Hid (∀ W, Below w.heap.size w W → Calls Tryz.prog 54 #[cv] W fun e w' => e = .returned (.string ⟨(cdB x.cd).toArray⟩) ∧ Below W.heap.size W w') := fun W hb => codeText_any cv x.cd W (hx.cd.on hb) hc hc1
  obtain ⟨ta, tb, toff, tcap, rfl, htA, htI⟩ := hx.ty
  obtain ⟨fa, fb, foff, fcap, rfl, hfA, hfI⟩ := hx.fi
  have HTA := hide htA
  have HTI := hide htI
  rw [hf] at hfA ⊢
  have HFA := hide hfA
  have HFI := hide hfI
  have HF := hide hf
  obtain ⟨n, hN⟩ : ∃ n, n = x.ty.length := ⟨_, rfl⟩
  rw [← hN] at ht ⊢
  have HN := hide hN
  have HP : Hid (itP x = (((([tIt x.name, nIt (n : Int)] ++ cellIt x.ty x.fi) ++ [nIt (x.ins.length : Int)]) ++ x.ins.map nIt ++ [nIt (x.outs.length : Int)]) ++ x.outs.map nIt) ++ [tIt (cdB x.cd)]) := by show _ = _; rw [hN]; rfl
  have n0 : (0 : Int) ≤ (n : Int) := by omega
  have n5 : (n : Int) ≤ 1024 := by omega
  clear htA htI hfA hfI hN hf hx
  have HB2 : Hid (∀ A B, Below w.heap.size w ((w.alloc A).alloc B)) := fun A B => bw2' w A B
  have HL0 : Hid (∀ A, ((w.alloc A).alloc (.cells #[.bool true, .int .i64 0, .string S] 61)).ownsRow base 61 3 (.slice (some ⟨w.heap.size + 1, 0, none⟩) 1 1) 1 (itsC [⟨true, 0, S⟩])) := fun A => by
    have h := World.ownsRow_lit (base := base) (e := 61) (size := 3) (w.alloc A) #[.bool true, .int .i64 0, .string S] 1 (by simp; omega) (by decide) rfl
    rw [show (w.alloc A).heap.size = w.heap.size + 1 from by simp] at h
    exact h
  have bx : Hid (∀ cs t B W, Below base ((w.alloc (.cells cs t)).alloc B) W → ∀ j, W.cell? ⟨w.heap.size, j, none⟩ = cs[j]?) := fun cs t B W h j => by
    rw [h.cell (p := ⟨w.heap.size, j, none⟩) (by show w.heap.size < base; omega)]
    have h2 : ((w.alloc (.cells cs t)).alloc B).heap[w.heap.size]? = some (.cells cs t (0, 0)) := by rw [heap_alloc_old _ _ (by simp), heap_alloc_new]
    exact Lib.cell_of_heap h2 j
  go_enter Tryz.func23, Tryz.ntmps23
  go_wp2_with fail
  refine (count_any base _ 1 _ (n : Int) _ (HL0.out _) (by simp; omega) (by omega)).mono ?_
  rintro e w1 ⟨v1, rfl, ho1, hb1⟩
  have q1 := bx.out _ _ _ _ hb1 1
  have Q2 := hide (bx.out _ _ _ _ hb1 2)
  have Q3 := hide (bx.out _ _ _ _ hb1 3)
  have Q4 := hide (bx.out _ _ _ _ hb1 4)
  have Q5 := hide (bx.out _ _ _ _ hb1 5)
  have BW := hide ((HB2.out _ _).trans (hb1.mono (by omega)))
  have LB : base ≤ w1.heap.size := by have := hb1.size; simp at this; omega
  have q1' : w1.cell? ⟨w.heap.size, 1, none⟩ = some (.slice ta n tcap) := q1
  have O1 : Hid (w1.ownsRow base 61 3 v1 (2 + 2 * 0) (itsC ([tIt x.name, nIt (n : Int)] ++ cellIt (x.ty.take 0) (x.fi.take 0)))) := by
    show w1.ownsRow base 61 3 v1 2 (itsC ([tIt x.name, nIt (n : Int)] ++ []))
    rw [List.append_nil, HS.out]; exact ho1
  clear hb1 ho1 q1 HL0 bx
  go_wp2_with fail
  go_loopw [3, 4, 5, 18] (fun bv _ _ i wx => ∃ (j : Nat) (b' : Value), j ≤ n ∧ i = .int .i64 (j : Int) ∧ b' = bv ∧ Hid (wx.ownsRow base 61 3 b' (2 + 2 * j) (itsC ([tIt x.name, nIt (n : Int)] ++ cellIt (x.ty.take j) (x.fi.take j))) ∧ Below base w1 wx)) (fun _ _ _ i _ => n - (intOf i).toNat)
  case atStart => exact ⟨0, _, by omega, rfl, rfl, O1.out, Below.refl _ _⟩
  case round =>
    clear O1
    obtain ⟨j, bv, hj, rfl, rfl, hh⟩ := hrel
    have OO := hide hh.out.1
    have BB := hide hh.out.2
    have j0 : (0 : Int) ≤ (j : Int) := by omega
    have zr := BB.out.size
    have hwb : w.heap.size < base := by omega
    clear hh
    by_cases hlt : j < n
    · have j1 : (j : Int) < (n : Int) := by omega
      obtain ⟨y, hy⟩ : ∃ y, x.ty[j]? = some y := ⟨_, List.getElem?_eq_getElem (by rw [← HN.out]; exact hlt)⟩
      obtain ⟨z, hz⟩ : ∃ z, x.fi[j]? = some z := ⟨_, List.getElem?_eq_getElem (by rw [HF.out, ← HN.out]; exact hlt)⟩
      obtain ⟨htb, rfl⟩ := HTA.out (by rw [← HN.out]; omega)
      obtain ⟨hfb, rfl⟩ := HFA.out (by rw [← HN.out]; omega)
      have c1 := (BB.out.cell (p := ⟨tb, toff + j, none⟩) (by show tb < base; omega)).trans ((BW.out.cell (p := ⟨tb, toff + j, none⟩) htb).trans (HTI.out j y hy))
      have c2 := (BB.out.cell (p := ⟨fb, foff + j, none⟩) (by show fb < base; omega)).trans ((BW.out.cell (p := ⟨fb, foff + j, none⟩) hfb).trans (HFI.out j z hz))
      have c3 : wr.cell? ⟨w.heap.size, 2, none⟩ = some (.slice (some ⟨fb, foff, none⟩) n fcap) := (BB.out.cell (p := ⟨w.heap.size, 2, none⟩) hwb).trans Q2.out
      have HT : Hid (itsC ([tIt x.name, nIt (n : Int)] ++ cellIt (x.ty.take (j + 1)) (x.fi.take (j + 1))) = itsC ([tIt x.name, nIt (n : Int)] ++ cellIt (x.ty.take j) (x.fi.take j)) ++ [.bool false, .int .i64 y, .string ⟨#[]⟩, .bool false, .int .i64 z, .string ⟨#[]⟩]) := by
        show _ = _
        rw [cell_next hy hz, ← List.append_assoc]
        exact its_two _ (nIt y) (nIt z)
      have hob : ∀ r, bv.ownBlock = some r → base ≤ r := fun r hr => (OO.out.lt r hr).1
      clear hy hz
      go_wp2_with (at_builtin; go_must (refine wpList_append_lies _ (by rfl) _ _ _ (by rfl) base 61 i0 _ 3 32 Tryz.underlying45 hi hz0 hz1 hz2 rfl (by omega) bv (2 + 2 * j) _ (by rfl) (OO.out.alloc _) ⟨wr.heap.size, 0, none⟩ 2 2 [.bool false, .int .i64 y, .string ⟨#[]⟩, .bool false, .int .i64 z, .string ⟨#[]⟩] (by rfl) (by rfl) (World.news_of_block (cs := #[.bool false, .int .i64 y, .string ⟨#[]⟩, .bool false, .int .i64 z, .string ⟨#[]⟩]) (t := 61) (fr := (0, 0)) (heap_alloc_new wr _)) (by simp [Value.oneCell']) (by omega) (by unfold maxLen; omega) (by omega) (by simp; omega) (wr.heap.size + 1) (by simp) ?_; intro gg cap' w3 hown3 hgrow hat hlt3; have B3 := hide ((BB.out.alloc (by omega) _).grown hgrow (by simp; omega) hob)))
      go_roundw
      case rel => exact ⟨j + 1, _, by omega, by go_num, rfl, by rw [HT.out]; exact hown3, B3.out⟩
      case measure => simp [intOf]; omega
    · obtain rfl : j = n := by omega
      have ho := OO.out
      rw [List.take_of_length_le (by rw [← HN.out]; exact Nat.le_refl _), List.take_of_length_le (by rw [HF.out, ← HN.out]; exact Nat.le_refl _)] at ho
      have O9 := hide ho
      have W2 := hide (BW.out.trans (BB.out.mono (by omega)))
      have c3 : wr.cell? ⟨w.heap.size, 3, none⟩ = some iv := (BB.out.cell (p := ⟨w.heap.size, 3, none⟩) hwb).trans Q3.out
      have C4 : Hid (wr.cell? ⟨w.heap.size, 4, none⟩ = some ov) := (BB.out.cell (p := ⟨w.heap.size, 4, none⟩) hwb).trans Q4.out
      have C5 : Hid (wr.cell? ⟨w.heap.size, 5, none⟩ = some cv) := (BB.out.cell (p := ⟨w.heap.size, 5, none⟩) hwb).trans Q5.out
      clear ho OO
      go_wp2_with fail
      refine (l1.out _ _ _ _ W2.out O9.out (by omega) (by omega)).mono ?_
      rintro e w3 ⟨v3, rfl, ho3, hb3⟩
      have c4 := (hb3.cell (p := ⟨w.heap.size, 4, none⟩) hwb).trans C4.out
      have D5 := hide ((hb3.cell (p := ⟨w.heap.size, 5, none⟩) hwb).trans C5.out)
      have W3 := hide (W2.out.trans (hb3.mono (by omega)))
      have L3 : base ≤ w3.heap.size := by have := hb3.size; omega
      have O3 := hide ho3
      clear ho3 hb3 c3 C4 C5 O9
      go_wp2_with fail
      refine (l2.out _ _ _ _ W3.out O3.out L3 (by omega)).mono ?_
      rintro e w4 ⟨v4, rfl, ho4, hb4⟩
      have c5 := (hb4.cell (p := ⟨w.heap.size, 5, none⟩) hwb).trans D5.out
      have W4 := hide (W3.out.trans (hb4.mono (by omega)))
      have L4 : base ≤ w4.heap.size := by have := hb4.size; omega
      have O4 := hide ho4
      clear ho4 hb4 c4 D5 O3
      go_wp2_with fail
      refine (l3.out _ W4.out).mono ?_
      rintro e w5 ⟨rfl, hb5⟩
      have W5 := hide (W4.out.trans (hb5.mono W4.out.size))
      have O5 := hide (owns_below O4.out hb5)
      have L5 : base ≤ w5.heap.size := by have := hb5.size; omega
      obtain ⟨T, hT⟩ : ∃ T : ByteArray, Hid (T = ⟨(cdB x.cd).toArray⟩) := ⟨_, rfl⟩
      rw [← hT.out]
      clear hb5 c5 O4
      have hob : ∀ r, v4.ownBlock = some r → base ≤ r := fun r hr => (O5.out.lt r hr).1
      have zil := hil
      have zol := hol
      generalize x.ins.length = ni at *
      generalize x.outs.length = no at *
      go_wp2_with (at_builtin; go_must (refine wpList_append_lies _ (by rfl) _ _ _ (by rfl) base 61 i0 _ 3 32 Tryz.underlying45 hi hz0 hz1 hz2 rfl (by omega) v4 (2 + 2 * j + 1 + ni + 1 + no) _ (by rfl) (O5.out.alloc _) ⟨w5.heap.size, 0, none⟩ 1 1 [.bool true, .int .i64 0, .string T] (by rfl) (by rfl) (World.news_of_block (cs := #[.bool true, .int .i64 0, .string T]) (t := 61) (fr := (0, 0)) (heap_alloc_new w5 _)) (by simp [Value.oneCell']) (by omega) (by unfold maxLen; omega) (by omega) (by simp; omega) (w5.heap.size + 1) (by simp) ?_; intro gg cap' w6 hown6 hgrow hat hlt3; have B6 := hide ((W5.out.alloc W5.out.size _).grown hgrow (by simp; omega) (fun r hr => Nat.le_trans (by omega) (hob r hr)))))
      go_ret
      refine ⟨_, rfl, ?_, B6.out⟩
      have h7 : w6.ownsRow base 61 3 (.slice (some ⟨gg, 0, none⟩) (2 + 2 * j + 1 + ni + 1 + no + 1) cap') (2 + 2 * j + 1 + ni + 1 + no + 1) (itsC (itP x)) := by
        rw [HP.out, its_one, show tIt (cdB x.cd) = ⟨true, 0, T⟩ from by rw [hT.out]; rfl]
        exact hown6
      have hl := h7.1
      rw [Wi.itsC_length] at hl
      have hlen : (itP x).length = 2 + 2 * j + 1 + ni + 1 + no + 1 := by omega
      refine Wi.Lst.of_owns (base := base) ?_
      rw [hlen]; exact h7
/-- code.Encode's answer -/
def encP (x : Img) : List UInt8 × Int := if (chkP x).2 = 0 then (Wi.encL (itP x), Wi.encE (itP x)) else ([], (chkP x).2)
theorem chk_ok {x : Img} (h : (chkP x).2 = 0) : frameB x = true := by
  unfold chkP at h
  cases hf : frameB x with
  | true => rfl
  | false => rw [hf] at h; exact absurd h (by show ¬ (130 : Int) = 0; decide)
theorem pigeon : ∀ (n : Nat) (s : List Int), s.Nodup → (∀ c ∈ s, 0 ≤ c ∧ c < (n : Int)) → s.length ≤ n
  | 0, s, _, h => by
    cases s with
    | nil => exact Nat.le_refl 0
    | cons c r => have := h c List.mem_cons_self; omega
  | n + 1, s, hd, h => by
    have ih := pigeon n (s.erase (n : Int)) (hd.erase _) (fun c hc => by
      rw [hd.mem_erase_iff] at hc
      have := h c hc.2
      have := hc.1
      omega)
    by_cases hm : (n : Int) ∈ s
    · rw [List.length_erase_of_mem hm] at ih; omega
    · rw [List.erase_of_not_mem hm] at ih; omega
theorem line_facts (n : Nat) : ∀ (l s : List Int), s.Nodup → (∀ c ∈ s, 0 ≤ c ∧ c < (n : Int)) → lineB n s l = true → (l.reverse ++ s).Nodup ∧ ∀ c ∈ l.reverse ++ s, 0 ≤ c ∧ c < (n : Int)
  | [], s, hd, hb, _ => ⟨hd, hb⟩
  | c :: r, s, hd, hb, h => by
    have h' : (inB c n && (!(s.contains c) && lineB n (c :: s) r)) = true := h
    simp only [Bool.and_eq_true, Bool.not_eq_true'] at h'
    have hin : 0 ≤ c ∧ c < (n : Int) := by
      have := h'.1
      unfold inB at this
      simp only [Bool.and_eq_true, decide_eq_true_eq] at this
      exact this
    have hnc : c ∉ s := fun hm => by
      have := List.contains_iff_mem.2 hm
      rw [h'.2.1] at this; cases this
    have ih := line_facts n r (c :: s) (List.nodup_cons.2 ⟨hnc, hd⟩) (fun y hy => by rcases List.mem_cons.1 hy with rfl | hy; exact hin; exact hb y hy) h'.2.2
    rw [List.reverse_cons, List.append_assoc]
    exact ih
theorem line_len {n : Nat} {l : List Int} (h : lineB n [] l = true) : l.length ≤ n := by
  obtain ⟨h1, h2⟩ := line_facts n l [] List.nodup_nil (fun c hc => by cases hc) h
  have := pigeon n _ h1 h2
  simpa using this
structure ChkF (x : Img) : Prop where
  ty : x.ty.length ≤ 1024
  fi : x.fi.length = x.ty.length
  ins : x.ins.length ≤ 1024
  outs : x.outs.length ≤ 1024
  c1 : 1 ≤ x.cd.length
  c2 : x.cd.length ≤ 4096
theorem frame_facts {x : Img} (h : frameB x = true) : ChkF x := by
  unfold frameB cellB at h
  simp only [Bool.and_eq_true, decide_eq_true_eq] at h
  obtain ⟨_, ⟨h1, h2, _⟩, h3, h4, h5⟩ := h
  have h6 := line_len h3
  rw [List.length_append] at h6
  exact ⟨h2, h1.symm, by omega, by omega, h4, h5⟩
end Go.Proofs.YtmbgcpmapaedcaaGreatDoor
namespace Go.Proofs.YtmbgcpmapaedcaaGreatDoor
open Go.RowKit
theorem in41 : (Tryz.prog.info? 41).map (fun i => (i.zero, i.size, i.bytes)) = some (some (.agg #[.int .i64 0, .int .i64 0, .int .i64 0, .int .i64 0]), 4, 32) := by kernel_rfl
/-- a list's cells -/
def inC (l : List Ins) : List Value := l.flatMap fun i => [.int .i64 i.op, .int .i64 i.a, .int .i64 i.b, .int .i64 i.n]
theorem inC_one (l : List Ins) (i : Ins) : inC (l ++ [i]) = inC l ++ [.int .i64 i.op, .int .i64 i.a, .int .i64 i.b, .int .i64 i.n] := by
  unfold inC; rw [List.flatMap_append]; simp
theorem inC_length (l : List Ins) : (inC l).length = 4 * l.length := by
  unfold inC
  induction l with
  | nil => rfl
  | cons i l ih => rw [List.flatMap_cons, List.length_append, ih, List.length_cons]; simp; omega
theorem inC_get : ∀ (l : List Ins) (k : Nat) (i : Ins), l[k]? = some i → (inC l)[k * 4]? = some (.int .i64 i.op) ∧ (inC l)[k * 4 + 1]? = some (.int .i64 i.a) ∧ (inC l)[k * 4 + 2]? = some (.int .i64 i.b) ∧ (inC l)[k * 4 + 3]? = some (.int .i64 i.n)
  | [], k, i, h => by cases h
  | j :: l, 0, i, h => by obtain rfl := Option.some.inj h; exact ⟨rfl, rfl, rfl, rfl⟩
  | j :: l, k + 1, i, h => by
    have ih := inC_get l k i h
    have e : ∀ m, (inC (j :: l))[m + 4]? = (inC l)[m]? := fun m => rfl
    refine ⟨?_, ?_, ?_, ?_⟩
    · rw [show (k + 1) * 4 = k * 4 + 4 by omega, e]; exact ih.1
    · rw [show (k + 1) * 4 + 1 = k * 4 + 1 + 4 by omega, e]; exact ih.2.1
    · rw [show (k + 1) * 4 + 2 = k * 4 + 2 + 4 by omega, e]; exact ih.2.2.1
    · rw [show (k + 1) * 4 + 3 = k * 4 + 3 + 4 by omega, e]; exact ih.2.2.2
theorem ISt.nil (w : World) (c : Nat) : ISt w (.slice none 0 c) [] := ⟨none, 0, 0, c, rfl, fun h => absurd h (Nat.lt_irrefl 0), fun i x hx => by cases hx⟩
theorem ISt.of_owns {w : World} {base : Nat} {v : Value} {l : List Ins} (h : w.ownsRow base 41 4 v l.length (inC l)) : ISt w v l := by
  rcases h.2 with ⟨hv, h0⟩ | ⟨g, cap, cur, hv, hb, hg, hn, hm, hc, ht⟩
  · obtain rfl := List.eq_nil_of_length_eq_zero h0
    subst hv
    exact ISt.nil w 0
  · subst hv
    refine ⟨_, g, 0, cap, rfl, fun _ => ⟨(Array.getElem?_eq_some_iff.1 hg).1, rfl⟩, fun i x hx => ?_⟩
    have hi : i < l.length := (List.getElem?_eq_some_iff.1 hx).1
    obtain ⟨h0, h1, h2, h3⟩ := inC_get l i x hx
    rw [Nat.zero_add]
    exact ⟨(h.cellAt _ (by omega)).trans h0, (h.cellAt _ (by omega)).trans h1, (h.cellAt _ (by omega)).trans h2, (h.cellAt _ (by omega)).trans h3⟩
theorem cdN_next : ∀ (k n : Nat) (q : List UInt8), k < n → cdN (k + 1) q = cdN k q ++ [insV (q.drop (11 * k))]
  | 0, n, q, _ => rfl
  | k + 1, n, q, h => by
    rw [cdN, cdN_next k n _ (by omega), cdN, List.cons_append, List.drop_drop, show 11 + 11 * k = 11 * (k + 1) by omega]
set_option maxRecDepth 100000 in
set_option maxHeartbeats 1600000 in
theorem codeOf_any (s : ByteArray) (q : List UInt8) (hq : s.data.toList = q) (hs : q.length ≤ 65536) (w : World) :
    Calls Tryz.prog 65 #[.string s] w fun e w' => ∃ v, e = .returned v ∧ w'.ownsRow w.heap.size 41 4 v (cdV q).length (inC (cdV q)) ∧ Below w.heap.size w w' := by
  obtain ⟨i0, hi, hz0, hz1, hz2⟩ := info_parts in41
  obtain ⟨M, hM⟩ : ∃ M, M = q.length / 11 := ⟨_, rfl⟩
  have HR : Hid (cdV q = cdN M q) := by show _ = _; rw [hM]; rfl
  have HS : Hid (s = ⟨(q.drop (11 * 0)).toArray⟩) := Wi.of_list s _ (by rw [hq]; rfl)
  have hM2 : 11 * M ≤ q.length := by omega
  have hM3 : q.length < 11 * M + 11 := by omega
  have c1 : Hid (∀ k, k < M → ∀ W, Calls Tryz.prog 89 #[.string ⟨(q.drop (11 * k)).toArray⟩] W fun e w' => e = .returned (inA (insV (q.drop (11 * k)))) ∧ Below W.heap.size W w') := fun k hk W => instrOf_any _ _ (by simp) (by rw [List.length_drop]; omega) W
  have x1 : Hid (∀ k, k < M → ∀ W, (Instr.slice 9 (.string ⟨(q.drop (11 * k)).toArray⟩) (some (.int .i64 11)) none none).run Tryz.prog W = .ok (.string ⟨(q.drop (11 * (k + 1))).toArray⟩) W) := fun k hk W => by
    have h := Wi.slice_from ⟨(q.drop (11 * k)).toArray⟩ 11 (by rw [Wi.list_size, List.length_drop]; omega) W
    rw [List.toList_toArray, List.drop_drop] at h
    rw [show 11 * (k + 1) = 11 * k + 11 by omega]
    exact h
  have z1 : Hid (∀ k, (⟨(q.drop (11 * k)).toArray⟩ : ByteArray).size = q.length - 11 * k) := fun k => by rw [Wi.list_size, List.length_drop]
  rw [HR.out]
  clear hq
  go_enter Tryz.func65, Tryz.ntmps65
  go_wp2_with fail
  go_loopw [0, 3] (fun t b wr => ∃ (k : Nat) (b' : Value), k ≤ M ∧ t = .string ⟨(q.drop (11 * k)).toArray⟩ ∧ b' = b ∧ Hid (wr.ownsRow w.heap.size 41 4 b' k (inC (cdN k q)) ∧ Below w.heap.size w wr)) (fun t _ _ => match t with | .string s => s.size | _ => 0)
  case atStart => exact ⟨0, _, by omega, by rw [← HS.out], rfl, World.ownsRow_nil _ _ _ _, Below.refl _ _⟩
  case round =>
    obtain ⟨k, b, hk, rfl, rfl, hh⟩ := hrel
    have OO := hide hh.out.1
    have BB := hide hh.out.2
    have zr := BB.out.size
    have zk := z1.out k
    clear hh
    by_cases hlt : k < M
    · have C1 := hide (c1.out k hlt)
      have X1 := x1.out k hlt
      have ge : (11 : Int) ≤ ((⟨(q.drop (11 * k)).toArray⟩ : ByteArray).size : Int) := by rw [zk]; omega
      have HM : Hid ((⟨(q.drop (11 * (k + 1))).toArray⟩ : ByteArray).size < (⟨(q.drop (11 * k)).toArray⟩ : ByteArray).size) := by show _ < _; rw [z1.out, z1.out]; omega
      have HN : Hid (inC (cdN (k + 1) q) = inC (cdN k q) ++ [.int .i64 (insV (q.drop (11 * k))).op, .int .i64 (insV (q.drop (11 * k))).a, .int .i64 (insV (q.drop (11 * k))).b, .int .i64 (insV (q.drop (11 * k))).n]) := by show _ = _; rw [cdN_next k M q hlt, inC_one]
      have hob : ∀ r, b.ownBlock = some r → w.heap.size ≤ r := fun r hr => (OO.out.lt r hr).1
      generalize insV (q.drop (11 * k)) = i at *
      obtain ⟨p0, p1, p2, p3⟩ := i
      clear zk
      go_wp2_with fail
      refine (C1.out _).mono ?_
      rintro e w1 ⟨rfl, b1⟩
      have O1 := hide (owns_below OO.out b1)
      have B1 := hide (BB.out.trans (b1.mono zr))
      have z2 := b1.size
      unfold inA
      clear b1
      go_wp2_with (at_builtin; go_must (refine wpList_append_lies _ (by rfl) _ _ _ (by rfl) w.heap.size 41 i0 _ 4 32 Tryz.underlying24 hi hz0 hz1 hz2 rfl (by omega) b k _ (by rfl) (O1.out.alloc _) ⟨w1.heap.size, 0, none⟩ 1 1 [.int .i64 p0, .int .i64 p1, .int .i64 p2, .int .i64 p3] (by rfl) (by rfl) (World.news_of_block (cs := #[.int .i64 p0, .int .i64 p1, .int .i64 p2, .int .i64 p3]) (t := 41) (fr := (0, 0)) (heap_alloc_new w1 _)) (by simp [Value.oneCell']) (by omega) (by unfold maxLen; omega) (by omega) (by simp; omega) (w1.heap.size + 1) (by simp) ?_; intro gg cap' w3 hown3 hgrow hat hlt3; have B3 := hide ((B1.out.alloc (by omega) _).grown hgrow (by simp; omega) hob)))
      go_roundw
      case rel => exact ⟨k + 1, _, by omega, rfl, rfl, by rw [HN.out]; exact hown3, B3.out⟩
      case measure => exact HM.out
    · obtain rfl : k = M := by omega
      have lt : ((⟨(q.drop (11 * k)).toArray⟩ : ByteArray).size : Int) < 11 := by rw [zk]; omega
      clear zk
      go_wp2
      go_ret
      refine ⟨_, rfl, ?_, BB.out⟩
      rw [cdN_length]; exact OO.out
end Go.Proofs.YtmbgcpmapaedcaaGreatDoor
