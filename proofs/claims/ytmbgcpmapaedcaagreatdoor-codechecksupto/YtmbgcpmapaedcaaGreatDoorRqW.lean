/- The document's Items. -/
import Derived.Test.YtmbgcpmapaedcaaGreatDoorMg33
namespace Go.Proofs.YtmbgcpmapaedcaaGreatDoor
open Go.RowKit
open Wi (App encB It itC itsC)
set_option maxRecDepth 100000 in
set_option maxHeartbeats 6400000 in
theorem ritems_any (nm tv fv iv ov cv : Value) (x : Img) (w : World) (hx : Im w nm tv fv iv ov cv x) (ht : x.ty.length ≤ 1024) (hf : x.fi.length = x.ty.length) (hil : x.ins.length ≤ 1024) (hol : x.outs.length ≤ 1024) (hc : x.cd.length ≤ 4096) (hc1 : 1 ≤ x.cd.length) (hR : ∀ i ∈ x.cd, InsR i) :
    Calls Tryz.prog 25 #[.agg #[nm, tv, fv, iv, ov, cv]] w fun e w' => ∃ v', e = .returned v' ∧ Wi.Lst w' v' (itP x) ∧ Below w.heap.size w w' := by
  obtain ⟨i0, hi, hz0, hz1, hz2⟩ := info_parts inIt
  obtain ⟨i5, hi5, hz50, hz51, hz52⟩ := info_parts Wi.in5
  obtain ⟨base, hbs⟩ : ∃ base, base = w.heap.size + 1 := ⟨_, rfl⟩
  obtain ⟨S, hS⟩ : ∃ S : ByteArray, S = ⟨x.name.toArray⟩ := ⟨_, rfl⟩
  have hnm : nm = .string S := by rw [hS]; exact hx.name
  have HS : Hid (tIt x.name = ⟨true, 0, S⟩) := by show _ = _; rw [hS]; rfl
  subst hnm
  clear hS
  obtain ⟨ta, tb, toff, tcap, rfl, htA, htI⟩ := hx.ty
  obtain ⟨fa, fb, foff, fcap, rfl, hfA, hfI⟩ := hx.fi
  obtain ⟨ia, ib, ioff, icap, rfl, hiA, hiI⟩ := hx.ins
  obtain ⟨oa, ob, ooff, ocap, rfl, hoA, hoI⟩ := hx.outs
  obtain ⟨ca, cb, coff, ccap, rfl, hcA, hcI⟩ := hx.cd
  have HTA := hide htA
  have HTI := hide htI
  rw [hf] at hfA ⊢
  have HFA := hide hfA
  have HFI := hide hfI
  have HF := hide hf
  have HIA := hide hiA
  have HII := hide hiI
  have HOA := hide hoA
  have HOI := hide hoI
  have HCA := hide hcA
  have HCI := hide hcI
  have HIR := hide hR
  obtain ⟨n, hN⟩ : ∃ n, n = x.ty.length := ⟨_, rfl⟩
  obtain ⟨ni, hNi⟩ : ∃ n, n = x.ins.length := ⟨_, rfl⟩
  obtain ⟨no, hNo⟩ : ∃ n, n = x.outs.length := ⟨_, rfl⟩
  obtain ⟨nc, hNc⟩ : ∃ n, n = x.cd.length := ⟨_, rfl⟩
  rw [← hN] at ht ⊢
  rw [← hNi] at hil ⊢
  rw [← hNo] at hol ⊢
  rw [← hNc] at hc hc1 ⊢
  have HN := hide hN
  have HNI := hide hNi
  have HNO := hide hNo
  have HNC := hide hNc
  have HP : Hid (itP x = (((([tIt x.name, nIt (n : Int)] ++ cellIt x.ty x.fi) ++ [nIt (ni : Int)]) ++ x.ins.map nIt ++ [nIt (no : Int)]) ++ x.outs.map nIt) ++ [tIt (cdB x.cd)]) := by show _ = _; rw [hN, hNi, hNo]; rfl
  have n0 : (0 : Int) ≤ (n : Int) := by omega
  have n5 : (n : Int) ≤ 1024 := by omega
  have ni0 : (0 : Int) ≤ (ni : Int) := by omega
  have ni5 : (ni : Int) ≤ 1024 := by omega
  have no0 : (0 : Int) ≤ (no : Int) := by omega
  have no5 : (no : Int) ≤ 1024 := by omega
  have nc0 : (0 : Int) ≤ (nc : Int) := by omega
  have nc5 : (nc : Int) ≤ 4096 := by omega
  clear htA htI hfA hfI hiA hiI hoA hoI hcA hcI hN hNi hNo hNc hf hx hR
  have cN1 : Hid (∀ m W, Calls Tryz.prog 57 #[.int .i64 m] W fun e w' => e = .returned (.agg #[.bool false, .int .i64 m, .string ⟨#[]⟩]) ∧ Below W.heap.size W w') := rnumit_any
  have HB0 := hide ((Below.refl w.heap.size w).alloc (Nat.le_refl _) (.cells #[.string S, .slice ta n tcap, .slice fa n fcap, .slice ia ni icap, .slice oa no ocap, .slice ca nc ccap] 26))
  have X0 := hide (heap_alloc_new w (.cells #[.string S, .slice ta n tcap, .slice fa n fcap, .slice ia ni icap, .slice oa no ocap, .slice ca nc ccap] 26))
  obtain ⟨w0, hw0⟩ : ∃ w0, w0 = w.alloc (.cells #[.string S, .slice ta n tcap, .slice fa n fcap, .slice ia ni icap, .slice oa no ocap, .slice ca nc ccap] 26) := ⟨_, rfl⟩
  have z0 : w0.heap.size = base := by rw [hw0, hbs]; simp
  rw [← hw0] at HB0 X0
  have W0 := hide hw0
  have hwb : w.heap.size < base := by omega
  clear hw0
  go_enter Tryz.func25, Tryz.ntmps25
  go_wp2_with fail
  rw [← W0.out]
  have hSS : w0.drew.cell? ⟨w.heap.size, 0, none⟩ = some (.string S) ∧ w0.drew.cell? ⟨w.heap.size, 1, none⟩ = some (.slice ta n tcap) := ⟨(Lib.cell_of_heap (j := 0) X0.out).trans rfl, (Lib.cell_of_heap (j := 1) X0.out).trans rfl⟩
  refine wp_region_held_drew (S := fun W => W.cell? ⟨w.heap.size, 0, none⟩ = some (.string S) ∧ W.cell? ⟨w.heap.size, 1, none⟩ = some (.slice ta n tcap)) (by kernel_rfl) hSS (fun hSS => ?_)
  refine tkH 0 (.pointer (some ⟨w.heap.size, 0, none⟩)) hSS ?_
  try simp only [Act.put, List.setIfInBounds_toArray, List.set_cons_zero, List.set_cons_succ]
  refine tkH 1 (.string S) hSS ?_
  try simp only [Act.put, List.setIfInBounds_toArray, List.set_cons_zero, List.set_cons_succ]
  refine tkH 2 (.agg #[.bool true, .int .i64 0, .string S]) hSS ?_
  try simp only [Act.put, List.setIfInBounds_toArray, List.set_cons_zero, List.set_cons_succ]
  refine tkH 3 (.pointer (some ⟨w.heap.size, 1, none⟩)) hSS ?_
  try simp only [Act.put, List.setIfInBounds_toArray, List.set_cons_zero, List.set_cons_succ]
  refine tkH 4 (.slice ta n tcap) hSS ?_
  try simp only [Act.put, List.setIfInBounds_toArray, List.set_cons_zero, List.set_cons_succ]
  refine tkH 5 (.int .i64 (n : Int)) hSS ?_
  try simp only [Act.put, List.setIfInBounds_toArray, List.set_cons_zero, List.set_cons_succ]
  refine rdH 6 (fun K hK => ?_)
  go_simp
  refine (cN1.out _ _).mono ?_
  rintro e w1 ⟨rfl, b1⟩
  have z1 : base ≤ w1.heap.size := by have h := b1.size; have e : w0.drew.heap.size = w0.heap.size := rfl; omega
  have hSB : w1.cell? ⟨w.heap.size, 0, none⟩ = some (.string S) ∧ w1.cell? ⟨w.heap.size, 1, none⟩ = some (.slice ta n tcap) := ⟨(b1.cell (p := ⟨w.heap.size, 0, none⟩) (by show w.heap.size < w0.heap.size; omega)).trans hSS.1, (b1.cell (p := ⟨w.heap.size, 1, none⟩) (by show w.heap.size < w0.heap.size; omega)).trans hSS.2⟩
  have X1 := hide ((b1.block w.heap.size (by show w.heap.size < w0.heap.size; omega)).trans X0.out)
  have B1 := hide (HB0.out.drew.trans (b1.mono (by show w.heap.size ≤ w0.heap.size; omega)))
  refine hK.out _ _ hSB (fun _ => ?_)
  clear hK K hSS b1
  try simp only [Act.put, List.setIfInBounds_toArray, List.set_cons_zero, List.set_cons_succ]
  refine rdH 7 (fun K hK => ?_)
  go_simp
  have hSC : ∀ A, (w1.alloc A).cell? ⟨w.heap.size, 0, none⟩ = some (.string S) ∧ (w1.alloc A).cell? ⟨w.heap.size, 1, none⟩ = some (.slice ta n tcap) := fun A => ⟨(World.cell?_alloc_lt _ _ ⟨w.heap.size, 0, none⟩ (by show w.heap.size < _; omega)).trans hSB.1, (World.cell?_alloc_lt _ _ ⟨w.heap.size, 1, none⟩ (by show w.heap.size < _; omega)).trans hSB.2⟩
  have O2 : Hid ((w1.alloc (.cells #[.bool true, .int .i64 0, .string S, .bool false, .int .i64 (n : Int), .string ⟨#[]⟩] 61)).ownsRow base 61 3 (.slice (some ⟨w1.heap.size, 0, none⟩) 2 2) (2 + 2 * 0) (itsC ([tIt x.name, nIt (n : Int)] ++ cellIt (x.ty.take 0) (x.fi.take 0)))) := by
    show World.ownsRow _ base 61 3 _ 2 (itsC ([tIt x.name, nIt (n : Int)] ++ []))
    rw [List.append_nil, HS.out]
    exact World.ownsRow_lit (base := base) (e := 61) (size := 3) w1 #[.bool true, .int .i64 0, .string S, .bool false, .int .i64 (n : Int), .string ⟨#[]⟩] 2 z1 (by decide) rfl
  have X2 := hide ((heap_alloc_old w1 (.cells #[.bool true, .int .i64 0, .string S, .bool false, .int .i64 (n : Int), .string ⟨#[]⟩] 61) (by omega : w.heap.size < w1.heap.size)).trans X1.out)
  have B2 := hide (B1.out.alloc B1.out.size (.cells #[.bool true, .int .i64 0, .string S, .bool false, .int .i64 (n : Int), .string ⟨#[]⟩] 61))
  refine hK.out _ _ (hSC _) (fun _ => ?_)
  clear hK K
  try simp only [Act.put, List.setIfInBounds_toArray, List.set_cons_zero, List.set_cons_succ]
  refine tkH 8 (.slice (some ⟨w1.heap.size, 0, none⟩) 2 2) (hSC _) ?_
  try simp only [Act.put, List.setIfInBounds_toArray, List.set_cons_zero, List.set_cons_succ]
  refine wpAnyH_done (by kernel_rfl) ?_ _
  clear hSB hSC X1 B1
  obtain ⟨w2, hw2⟩ : ∃ w2, w2 = w1.alloc (.cells #[.bool true, .int .i64 0, .string S, .bool false, .int .i64 (n : Int), .string ⟨#[]⟩] 61) := ⟨_, rfl⟩
  rw [← hw2] at O2 X2 B2 ⊢
  clear hw2
  go_wp2_with fail
  go_loopw [3, 4] (fun bv i wx => ∃ (j : Nat) (b' : Value), j ≤ n ∧ i = .int .i64 (j : Int) ∧ b' = bv ∧ Hid (wx.ownsRow base 61 3 b' (2 + 2 * j) (itsC ([tIt x.name, nIt (n : Int)] ++ cellIt (x.ty.take j) (x.fi.take j))) ∧ Below base w2 wx)) (fun _ i _ => n - (intOf i).toNat)
  case atStart => exact ⟨0, _, by omega, rfl, rfl, O2.out, Below.refl _ _⟩
  case round =>
  clear O2
  obtain ⟨j, bv, hj, rfl, rfl, hh⟩ := hrel
  have OO := hide hh.out.1
  have BB := hide hh.out.2
  have BW := hide (B2.out.trans (BB.out.mono (by omega)))
  have XX := hide ((BB.out.block w.heap.size (by omega)).trans X2.out)
  have j0 : (0 : Int) ≤ (j : Int) := by omega
  have zr : base ≤ wr.heap.size := by have h := BB.out.size; have h2 : base ≤ w2.heap.size := by have := (Array.getElem?_eq_some_iff.1 X2.out).1; omega
                                      omega
  clear hh
  by_cases hlt : j < n
  · have j1 : (j : Int) < (n : Int) := by omega
    obtain ⟨y, hy⟩ : ∃ y, x.ty[j]? = some y := ⟨_, List.getElem?_eq_getElem (by rw [← HN.out]; exact hlt)⟩
    obtain ⟨z, hz⟩ : ∃ z, x.fi[j]? = some z := ⟨_, List.getElem?_eq_getElem (by rw [HF.out, ← HN.out]; exact hlt)⟩
    obtain ⟨htb, rfl⟩ := HTA.out (by rw [← HN.out]; omega)
    obtain ⟨hfb, rfl⟩ := HFA.out (by rw [← HN.out]; omega)
    have c1 : wr.cell? ⟨w.heap.size, 1, none⟩ = some (.slice (some ⟨tb, toff, none⟩) n tcap) := (Lib.cell_of_heap (j := 1) XX.out).trans rfl
    have c2 : wr.cell? ⟨w.heap.size, 2, none⟩ = some (.slice (some ⟨fb, foff, none⟩) n fcap) := (Lib.cell_of_heap (j := 2) XX.out).trans rfl
    have d1 := (BW.out.cell (p := ⟨tb, toff + j, none⟩) htb).trans (HTI.out j y hy)
    have d2 := (BW.out.cell (p := ⟨fb, foff + j, none⟩) hfb).trans (HFI.out j z hz)
    have HT : Hid (itsC ([tIt x.name, nIt (n : Int)] ++ cellIt (x.ty.take (j + 1)) (x.fi.take (j + 1))) = itsC ([tIt x.name, nIt (n : Int)] ++ cellIt (x.ty.take j) (x.fi.take j)) ++ [.bool false, .int .i64 y, .string ⟨#[]⟩, .bool false, .int .i64 z, .string ⟨#[]⟩]) := by
      show _ = _
      rw [cell_next hy hz, ← List.append_assoc]
      exact its_two _ (nIt y) (nIt z)
    clear hy hz
    go_wp2_with fail
    have hSS : wr.drew.cell? ⟨w.heap.size, 1, none⟩ = some (.slice (some ⟨tb, toff, none⟩) n tcap) ∧ wr.drew.cell? ⟨w.heap.size, 2, none⟩ = some (.slice (some ⟨fb, foff, none⟩) n fcap) ∧ wr.drew.cell? ⟨tb, toff + j, none⟩ = some (.int .i64 y) ∧ wr.drew.cell? ⟨fb, foff + j, none⟩ = some (.int .i64 z) := ⟨c1, c2, d1, d2⟩
    have zd : wr.drew.heap.size = wr.heap.size := rfl
    clear c1 c2 d1 d2 XX
    refine wp_region_held_drew (S := fun W => W.cell? ⟨w.heap.size, 1, none⟩ = some (.slice (some ⟨tb, toff, none⟩) n tcap) ∧ W.cell? ⟨w.heap.size, 2, none⟩ = some (.slice (some ⟨fb, foff, none⟩) n fcap) ∧ W.cell? ⟨tb, toff + j, none⟩ = some (.int .i64 y) ∧ W.cell? ⟨fb, foff + j, none⟩ = some (.int .i64 z)) (by kernel_rfl) hSS (fun hSS => ?_)
    refine tkH 0 (bv) hSS ?_
    try simp only [Act.put, List.setIfInBounds_toArray, List.set_cons_zero, List.set_cons_succ]
    refine tkH 1 (.pointer (some ⟨w.heap.size, 1, none⟩)) hSS ?_
    try simp only [Act.put, List.setIfInBounds_toArray, List.set_cons_zero, List.set_cons_succ]
    refine tkH 2 (.slice (some ⟨tb, toff, none⟩) n tcap) hSS ?_
    try simp only [Act.put, List.setIfInBounds_toArray, List.set_cons_zero, List.set_cons_succ]
    refine tkH 3 (.int .i64 (j : Int)) hSS ?_
    try simp only [Act.put, List.setIfInBounds_toArray, List.set_cons_zero, List.set_cons_succ]
    refine tkH 4 (.pointer (some ⟨tb, toff + j, none⟩)) hSS ?_
    try simp only [Act.put, List.setIfInBounds_toArray, List.set_cons_zero, List.set_cons_succ]
    refine tkH 5 (.int .i64 y) hSS ?_
    try simp only [Act.put, List.setIfInBounds_toArray, List.set_cons_zero, List.set_cons_succ]
    refine tkH 7 (.pointer (some ⟨w.heap.size, 2, none⟩)) hSS ?_
    try simp only [Act.put, List.setIfInBounds_toArray, List.set_cons_zero, List.set_cons_succ]
    refine tkH 8 (.slice (some ⟨fb, foff, none⟩) n fcap) hSS ?_
    try simp only [Act.put, List.setIfInBounds_toArray, List.set_cons_zero, List.set_cons_succ]
    refine tkH 9 (.int .i64 (j : Int)) hSS ?_
    try simp only [Act.put, List.setIfInBounds_toArray, List.set_cons_zero, List.set_cons_succ]
    refine tkH 10 (.pointer (some ⟨fb, foff + j, none⟩)) hSS ?_
    try simp only [Act.put, List.setIfInBounds_toArray, List.set_cons_zero, List.set_cons_succ]
    refine tkH 11 (.int .i64 z) hSS ?_
    try simp only [Act.put, List.setIfInBounds_toArray, List.set_cons_zero, List.set_cons_succ]
    refine tkH 12 (.agg #[.bool false, .int .i64 z, .string ⟨#[]⟩]) hSS ?_
    try simp only [Act.put, List.setIfInBounds_toArray, List.set_cons_zero, List.set_cons_succ]
    refine rdH 6 (fun K hK => ?_)
    go_simp
    refine (cN1.out _ _).mono ?_
    rintro e w3 ⟨rfl, b3⟩
    have z3 : base ≤ w3.heap.size := by have h := b3.size; omega
    have htb2 : tb < wr.drew.heap.size := by omega
    have hfb2 : fb < wr.drew.heap.size := by omega
    have hw2' : w.heap.size < wr.drew.heap.size := by omega
    have hSB : w3.cell? ⟨w.heap.size, 1, none⟩ = some (.slice (some ⟨tb, toff, none⟩) n tcap) ∧ w3.cell? ⟨w.heap.size, 2, none⟩ = some (.slice (some ⟨fb, foff, none⟩) n fcap) ∧ w3.cell? ⟨tb, toff + j, none⟩ = some (.int .i64 y) ∧ w3.cell? ⟨fb, foff + j, none⟩ = some (.int .i64 z) := ⟨(b3.cell (p := ⟨w.heap.size, 1, none⟩) hw2').trans hSS.1, (b3.cell (p := ⟨w.heap.size, 2, none⟩) hw2').trans hSS.2.1, (b3.cell (p := ⟨tb, toff + j, none⟩) htb2).trans hSS.2.2.1, (b3.cell (p := ⟨fb, foff + j, none⟩) hfb2).trans hSS.2.2.2⟩
    have B3 := hide (BB.out.drew.trans (b3.mono (by omega)))
    have O3 : Hid (w3.ownsRow base 61 3 bv (2 + 2 * j) (itsC ([tIt x.name, nIt (n : Int)] ++ cellIt (x.ty.take j) (x.fi.take j)))) := owns_below (w := wr.drew) OO.out b3
    refine hK.out _ _ hSB (fun _ => ?_)
    have z9 := b3.size
    clear hK K hSS b3 OO BB BW
    try simp only [Act.put, List.setIfInBounds_toArray, List.set_cons_zero, List.set_cons_succ]
    refine rdH 13 (fun K hK => ?_)
    go_simp
    have hSC : ∀ A, (w3.alloc A).cell? ⟨w.heap.size, 1, none⟩ = some (.slice (some ⟨tb, toff, none⟩) n tcap) ∧ (w3.alloc A).cell? ⟨w.heap.size, 2, none⟩ = some (.slice (some ⟨fb, foff, none⟩) n fcap) ∧ (w3.alloc A).cell? ⟨tb, toff + j, none⟩ = some (.int .i64 y) ∧ (w3.alloc A).cell? ⟨fb, foff + j, none⟩ = some (.int .i64 z) := fun A => ⟨(World.cell?_alloc_lt _ _ ⟨w.heap.size, 1, none⟩ (by show w.heap.size < _; omega)).trans hSB.1, (World.cell?_alloc_lt _ _ ⟨w.heap.size, 2, none⟩ (by show w.heap.size < _; omega)).trans hSB.2.1, (World.cell?_alloc_lt _ _ ⟨tb, toff + j, none⟩ (by show tb < _; omega)).trans hSB.2.2.1, (World.cell?_alloc_lt _ _ ⟨fb, foff + j, none⟩ (by show fb < _; omega)).trans hSB.2.2.2⟩
    refine hK.out _ _ (hSC _) (fun _ => ?_)
    clear hK K
    try simp only [Act.put, List.setIfInBounds_toArray, List.set_cons_zero, List.set_cons_succ]
    have hob : ∀ r, bv.ownBlock = some r → base ≤ r := fun r hr => (O3.out.lt r hr).1
    refine rdH 14 (fun K hK => ?_)
    refine wp_append_lies _ _ _ _ (by rfl) base 61 i0 _ 3 32 Tryz.underlying45 hi hz0 hz1 hz2 rfl (by omega) bv (2 + 2 * j) _ (by rfl) (O3.out.alloc _) ⟨w3.heap.size, 0, none⟩ 2 2 [.bool false, .int .i64 y, .string ⟨#[]⟩, .bool false, .int .i64 z, .string ⟨#[]⟩] (by rfl) (by rfl) (World.news_of_block (cs := #[.bool false, .int .i64 y, .string ⟨#[]⟩, .bool false, .int .i64 z, .string ⟨#[]⟩]) (t := 61) (fr := (0, 0)) (heap_alloc_new w3 _)) (by simp [Value.oneCell']) (by omega) (by unfold maxLen; omega) (by omega) (by simp; omega) (w3.heap.size + 1) (by simp) ?_
    intro gg cap' w4 hown4 hgrow hat hlt4
    have B4 := hide ((B3.out.alloc (by omega) _).grown hgrow (by simp; omega) hob)
    have b4 : Below base w3 w4 := ((Below.refl base w3).alloc (by omega) _).grown hgrow (by simp; omega) hob
    have hSD : w4.cell? ⟨w.heap.size, 1, none⟩ = some (.slice (some ⟨tb, toff, none⟩) n tcap) ∧ w4.cell? ⟨w.heap.size, 2, none⟩ = some (.slice (some ⟨fb, foff, none⟩) n fcap) ∧ w4.cell? ⟨tb, toff + j, none⟩ = some (.int .i64 y) ∧ w4.cell? ⟨fb, foff + j, none⟩ = some (.int .i64 z) := ⟨(b4.cell (p := ⟨w.heap.size, 1, none⟩) (by show w.heap.size < base; omega)).trans hSB.1, (b4.cell (p := ⟨w.heap.size, 2, none⟩) (by show w.heap.size < base; omega)).trans hSB.2.1, (b4.cell (p := ⟨tb, toff + j, none⟩) (by show tb < base; omega)).trans hSB.2.2.1, (b4.cell (p := ⟨fb, foff + j, none⟩) (by show fb < base; omega)).trans hSB.2.2.2⟩
    refine hK.out _ _ hSD (fun hSD => ?_)
    clear hK K
    try simp only [Act.put, List.setIfInBounds_toArray, List.set_cons_zero, List.set_cons_succ]
    refine tkH 15 (.slice (some ⟨gg, 0, none⟩) (2 + 2 * j + 2) cap') hSD ?_
    try simp only [Act.put, List.setIfInBounds_toArray, List.set_cons_zero, List.set_cons_succ]
    refine wpAnyH_done (by kernel_rfl) ?_ _
    clear hSB hSC hSD b4 O3 B3
    go_wp2
    go_roundw
    case rel => exact ⟨j + 1, _, by omega, by go_num, rfl, by rw [HT.out]; exact hown4, B4.out⟩
    case measure => simp [intOf]; omega
  · have j1 : ¬ (j : Int) < (n : Int) := by omega
    have hjn : j = n := by omega
    have ho := OO.out
    rw [List.take_of_length_le (by rw [← HN.out, hjn]; exact Nat.le_refl _), List.take_of_length_le (by rw [HF.out, ← HN.out, hjn]; exact Nat.le_refl _)] at ho
    have OO := hide ho
    have c1 : wr.cell? ⟨w.heap.size, 1, none⟩ = some (.slice ta n tcap) := (Lib.cell_of_heap (j := 1) XX.out).trans rfl
    have c3 : wr.cell? ⟨w.heap.size, 3, none⟩ = some (.slice ia ni icap) := (Lib.cell_of_heap (j := 3) XX.out).trans rfl
    obtain ⟨K1, hK1⟩ : ∃ K, K = 2 + 2 * j := ⟨_, rfl⟩
    have hK1b : K1 ≤ 3000 := by omega
    rw [← hK1] at OO
    obtain ⟨L1, hL1⟩ : ∃ L, L = [tIt x.name, nIt (n : Int)] ++ cellIt x.ty x.fi := ⟨_, rfl⟩
    rw [← hL1] at OO HP
    clear ho BB hlt hjn hK1 hL1
    go_wp2_with fail
    refine (cN1.out _ _).mono ?_
    rintro e wA2 ⟨rfl, bA2⟩
    have OA2 := hide (owns_below OO.out bA2)
    have WA2 := hide (BW.out.trans (bA2.mono BW.out.size))
    have XA2 := hide ((bA2.block w.heap.size (Array.getElem?_eq_some_iff.1 XX.out).1).trans XX.out)
    have hob2 : ∀ r, bv.ownBlock = some r → base ≤ r := fun r hr => (OA2.out.lt r hr).1
    have zA2 : base ≤ wA2.heap.size := by have := (Array.getElem?_eq_some_iff.1 XA2.out).1; omega
    have HT2 := hide (its_one L1 (nIt (ni : Int)))
    clear bA2 OO BW XX c3
    go_wp2_with (at_builtin; go_must (refine wpList_append_lies _ (by rfl) _ _ _ (by rfl) base 61 i0 _ 3 32 Tryz.underlying45 hi hz0 hz1 hz2 rfl (by omega) bv (K1) _ (by rfl) (OA2.out.alloc _) ⟨wA2.heap.size, 0, none⟩ 1 1 [.bool false, .int .i64 (ni : Int), .string ⟨#[]⟩] (by rfl) (by rfl) (World.news_of_block (cs := #[.bool false, .int .i64 (ni : Int), .string ⟨#[]⟩]) (t := 61) (fr := (0, 0)) (heap_alloc_new wA2 _)) (by simp [Value.oneCell']) (by omega) (by unfold maxLen; omega) (by omega) (by simp; omega) (wA2.heap.size + 1) (by simp) ?_; intro gg cap' wB2 hownN hgrow hat hltN; have WB2 := hide ((WA2.out.alloc WA2.out.size _).grown hgrow (by simp; omega) (fun r hr => Nat.le_trans (by omega) (hob2 r hr))); have XB2 := hide ((((Below.refl base wA2).alloc (by omega) _).grown hgrow (by simp; omega) hob2).block w.heap.size (by omega) |>.trans XA2.out)))
    have OB2 : Hid (wB2.ownsRow base 61 3 (.slice (some ⟨gg, 0, none⟩) (K1 + 1) cap') (K1 + 1 + 0) (itsC ((L1 ++ [nIt (ni : Int)]) ++ (x.ins.take 0).map nIt))) := by
      show wB2.ownsRow base 61 3 _ (K1 + 1) (itsC ((L1 ++ [nIt (ni : Int)]) ++ []))
      rw [List.append_nil, HT2.out]; exact hownN
    clear hownN hgrow hat OA2 WA2 XA2 HT2
    go_loopw [3, 5] (fun bv i wx => ∃ (j : Nat) (b' : Value), j ≤ ni ∧ i = .int .i64 (j : Int) ∧ b' = bv ∧ Hid (wx.ownsRow base 61 3 b' (K1 + 1 + j) (itsC ((L1 ++ [nIt (ni : Int)]) ++ (x.ins.take j).map nIt)) ∧ Below base wB2 wx)) (fun _ i _ => ni - (intOf i).toNat)
    case atStart => exact ⟨0, _, by omega, rfl, rfl, OB2.out, Below.refl _ _⟩
    case round =>
    clear OB2
    obtain ⟨j2, bv2, hj2, rfl, rfl, hh⟩ := hrel
    have OO := hide hh.out.1
    have BB := hide hh.out.2
    have BW := hide (WB2.out.trans (BB.out.mono (by omega)))
    have XX := hide ((BB.out.block w.heap.size (by omega)).trans XB2.out)
    have j02 : (0 : Int) ≤ (j2 : Int) := by omega
    have zr2 : base ≤ wr.heap.size := by have := (Array.getElem?_eq_some_iff.1 XX.out).1; omega
    clear hh
    by_cases hlt : j2 < ni
    · have j1 : (j2 : Int) < (ni : Int) := by omega
      obtain ⟨y, hy⟩ : ∃ y, x.ins[j2]? = some y := ⟨_, List.getElem?_eq_getElem (by rw [← HNI.out]; exact hlt)⟩
      obtain ⟨hxb, rfl⟩ := HIA.out (by rw [← HNI.out]; omega)
      have c3 : wr.cell? ⟨w.heap.size, 3, none⟩ = some (.slice (some ⟨ib, ioff, none⟩) ni icap) := (Lib.cell_of_heap (j := 3) XX.out).trans rfl
      have d1 := (BW.out.cell (p := ⟨ib, ioff + j2, none⟩) hxb).trans (HII.out j2 y hy)
      have HT : Hid (itsC ((L1 ++ [nIt (ni : Int)]) ++ (x.ins.take (j2 + 1)).map nIt) = itsC ((L1 ++ [nIt (ni : Int)]) ++ (x.ins.take j2).map nIt) ++ [.bool false, .int .i64 y, .string ⟨#[]⟩]) := by
        show _ = _
        rw [List.take_add_one, hy]
        show itsC (_ ++ (x.ins.take j2 ++ [y]).map nIt) = _
        rw [List.map_append, ← List.append_assoc]
        exact its_one _ (nIt y)
      clear hy
      go_wp2_with fail
      refine (cN1.out _ _).mono ?_
      rintro e w3 ⟨rfl, b3⟩
      have O3 := hide (owns_below OO.out b3)
      have B3 := hide (BB.out.trans (b3.mono zr2))
      have z3 : base ≤ w3.heap.size := by have := b3.size; omega
      have hob : ∀ r, bv2.ownBlock = some r → base ≤ r := fun r hr => (O3.out.lt r hr).1
      clear b3 OO BB BW XX c3 d1
      go_wp2_with (at_builtin; go_must (refine wpList_append_lies _ (by rfl) _ _ _ (by rfl) base 61 i0 _ 3 32 Tryz.underlying45 hi hz0 hz1 hz2 rfl (by omega) bv2 (K1 + 1 + j2) _ (by rfl) (O3.out.alloc _) ⟨w3.heap.size, 0, none⟩ 1 1 [.bool false, .int .i64 y, .string ⟨#[]⟩] (by rfl) (by rfl) (World.news_of_block (cs := #[.bool false, .int .i64 y, .string ⟨#[]⟩]) (t := 61) (fr := (0, 0)) (heap_alloc_new w3 _)) (by simp [Value.oneCell']) (by omega) (by unfold maxLen; omega) (by omega) (by simp; omega) (w3.heap.size + 1) (by simp) ?_; intro gg cap' w4 hownN hgrow hat hltN; have B4 := hide ((B3.out.alloc (by omega) _).grown hgrow (by simp; omega) hob)))
      go_roundw
      case rel => exact ⟨j2 + 1, _, by omega, by go_num, rfl, by rw [HT.out]; exact hownN, B4.out⟩
      case measure => simp [intOf]; omega
    · have j1 : ¬ (j2 : Int) < (ni : Int) := by omega
      have hjn : j2 = ni := by omega
      have ho := OO.out
      rw [List.take_of_length_le (by rw [← HNI.out, hjn]; exact Nat.le_refl _)] at ho
      have OO := hide ho
      have c3 : wr.cell? ⟨w.heap.size, 3, none⟩ = some (.slice ia ni icap) := (Lib.cell_of_heap (j := 3) XX.out).trans rfl
      have c4 : wr.cell? ⟨w.heap.size, 4, none⟩ = some (.slice oa no ocap) := (Lib.cell_of_heap (j := 4) XX.out).trans rfl
      obtain ⟨K2, hK2⟩ : ∃ K, K = K1 + 1 + j2 := ⟨_, rfl⟩
      have hK2b : K2 ≤ 5000 := by omega
      rw [← hK2] at OO
      obtain ⟨L2, hL2⟩ : ∃ L, L = (L1 ++ [nIt (ni : Int)]) ++ x.ins.map nIt := ⟨_, rfl⟩
      rw [← hL2] at OO HP
      clear ho BB hlt hjn hK2 hL2
      go_wp2_with fail
      refine (cN1.out _ _).mono ?_
      rintro e wA3 ⟨rfl, bA3⟩
      have OA3 := hide (owns_below OO.out bA3)
      have WA3 := hide (BW.out.trans (bA3.mono BW.out.size))
      have XA3 := hide ((bA3.block w.heap.size (Array.getElem?_eq_some_iff.1 XX.out).1).trans XX.out)
      have hob3 : ∀ r, bv2.ownBlock = some r → base ≤ r := fun r hr => (OA3.out.lt r hr).1
      have zA3 : base ≤ wA3.heap.size := by have := (Array.getElem?_eq_some_iff.1 XA3.out).1; omega
      have HT3 := hide (its_one L2 (nIt (no : Int)))
      clear bA3 OO BW XX c4
      go_wp2_with (at_builtin; go_must (refine wpList_append_lies _ (by rfl) _ _ _ (by rfl) base 61 i0 _ 3 32 Tryz.underlying45 hi hz0 hz1 hz2 rfl (by omega) bv2 (K2) _ (by rfl) (OA3.out.alloc _) ⟨wA3.heap.size, 0, none⟩ 1 1 [.bool false, .int .i64 (no : Int), .string ⟨#[]⟩] (by rfl) (by rfl) (World.news_of_block (cs := #[.bool false, .int .i64 (no : Int), .string ⟨#[]⟩]) (t := 61) (fr := (0, 0)) (heap_alloc_new wA3 _)) (by simp [Value.oneCell']) (by omega) (by unfold maxLen; omega) (by omega) (by simp; omega) (wA3.heap.size + 1) (by simp) ?_; intro gg cap' wB3 hownN hgrow hat hltN; have WB3 := hide ((WA3.out.alloc WA3.out.size _).grown hgrow (by simp; omega) (fun r hr => Nat.le_trans (by omega) (hob3 r hr))); have XB3 := hide ((((Below.refl base wA3).alloc (by omega) _).grown hgrow (by simp; omega) hob3).block w.heap.size (by omega) |>.trans XA3.out)))
      have OB3 : Hid (wB3.ownsRow base 61 3 (.slice (some ⟨gg, 0, none⟩) (K2 + 1) cap') (K2 + 1 + 0) (itsC ((L2 ++ [nIt (no : Int)]) ++ (x.outs.take 0).map nIt))) := by
        show wB3.ownsRow base 61 3 _ (K2 + 1) (itsC ((L2 ++ [nIt (no : Int)]) ++ []))
        rw [List.append_nil, HT3.out]; exact hownN
      clear hownN hgrow hat OA3 WA3 XA3 HT3
      go_loopw [3, 6] (fun bv i wx => ∃ (j : Nat) (b' : Value), j ≤ no ∧ i = .int .i64 (j : Int) ∧ b' = bv ∧ Hid (wx.ownsRow base 61 3 b' (K2 + 1 + j) (itsC ((L2 ++ [nIt (no : Int)]) ++ (x.outs.take j).map nIt)) ∧ Below base wB3 wx)) (fun _ i _ => no - (intOf i).toNat)
      case atStart => exact ⟨0, _, by omega, rfl, rfl, OB3.out, Below.refl _ _⟩
      case round =>
      clear OB3
      obtain ⟨j3, bv3, hj3, rfl, rfl, hh⟩ := hrel
      have OO := hide hh.out.1
      have BB := hide hh.out.2
      have BW := hide (WB3.out.trans (BB.out.mono (by omega)))
      have XX := hide ((BB.out.block w.heap.size (by omega)).trans XB3.out)
      have j03 : (0 : Int) ≤ (j3 : Int) := by omega
      have zr3 : base ≤ wr.heap.size := by have := (Array.getElem?_eq_some_iff.1 XX.out).1; omega
      clear hh
      by_cases hlt : j3 < no
      · have j1 : (j3 : Int) < (no : Int) := by omega
        obtain ⟨y, hy⟩ : ∃ y, x.outs[j3]? = some y := ⟨_, List.getElem?_eq_getElem (by rw [← HNO.out]; exact hlt)⟩
        obtain ⟨hxb, rfl⟩ := HOA.out (by rw [← HNO.out]; omega)
        have c4 : wr.cell? ⟨w.heap.size, 4, none⟩ = some (.slice (some ⟨ob, ooff, none⟩) no ocap) := (Lib.cell_of_heap (j := 4) XX.out).trans rfl
        have d1 := (BW.out.cell (p := ⟨ob, ooff + j3, none⟩) hxb).trans (HOI.out j3 y hy)
        have HT : Hid (itsC ((L2 ++ [nIt (no : Int)]) ++ (x.outs.take (j3 + 1)).map nIt) = itsC ((L2 ++ [nIt (no : Int)]) ++ (x.outs.take j3).map nIt) ++ [.bool false, .int .i64 y, .string ⟨#[]⟩]) := by
          show _ = _
          rw [List.take_add_one, hy]
          show itsC (_ ++ (x.outs.take j3 ++ [y]).map nIt) = _
          rw [List.map_append, ← List.append_assoc]
          exact its_one _ (nIt y)
        clear hy
        go_wp2_with fail
        refine (cN1.out _ _).mono ?_
        rintro e w3 ⟨rfl, b3⟩
        have O3 := hide (owns_below OO.out b3)
        have B3 := hide (BB.out.trans (b3.mono zr3))
        have z3 : base ≤ w3.heap.size := by have := b3.size; omega
        have hob : ∀ r, bv3.ownBlock = some r → base ≤ r := fun r hr => (O3.out.lt r hr).1
        clear b3 OO BB BW XX c4 d1
        go_wp2_with (at_builtin; go_must (refine wpList_append_lies _ (by rfl) _ _ _ (by rfl) base 61 i0 _ 3 32 Tryz.underlying45 hi hz0 hz1 hz2 rfl (by omega) bv3 (K2 + 1 + j3) _ (by rfl) (O3.out.alloc _) ⟨w3.heap.size, 0, none⟩ 1 1 [.bool false, .int .i64 y, .string ⟨#[]⟩] (by rfl) (by rfl) (World.news_of_block (cs := #[.bool false, .int .i64 y, .string ⟨#[]⟩]) (t := 61) (fr := (0, 0)) (heap_alloc_new w3 _)) (by simp [Value.oneCell']) (by omega) (by unfold maxLen; omega) (by omega) (by simp; omega) (w3.heap.size + 1) (by simp) ?_; intro gg cap' w4 hownN hgrow hat hltN; have B4 := hide ((B3.out.alloc (by omega) _).grown hgrow (by simp; omega) hob)))
        go_roundw
        case rel => exact ⟨j3 + 1, _, by omega, by go_num, rfl, by rw [HT.out]; exact hownN, B4.out⟩
        case measure => simp [intOf]; omega
      · have j1 : ¬ (j3 : Int) < (no : Int) := by omega
        have hjn : j3 = no := by omega
        have ho := OO.out
        rw [List.take_of_length_le (by rw [← HNO.out, hjn]; exact Nat.le_refl _)] at ho
        have OO := hide ho
        have c4 : wr.cell? ⟨w.heap.size, 4, none⟩ = some (.slice oa no ocap) := (Lib.cell_of_heap (j := 4) XX.out).trans rfl
        have c5 : wr.cell? ⟨w.heap.size, 5, none⟩ = some (.slice ca nc ccap) := (Lib.cell_of_heap (j := 5) XX.out).trans rfl
        obtain ⟨K3, hK3⟩ : ∃ K, K = K2 + 1 + j3 := ⟨_, rfl⟩
        have hK3b : K3 ≤ 7000 := by omega
        rw [← hK3] at OO
        obtain ⟨L3, hL3⟩ : ∃ L, L = (L2 ++ [nIt (no : Int)]) ++ x.outs.map nIt := ⟨_, rfl⟩
        rw [← hL3] at OO HP
        clear ho BB hlt hjn hK3 hL3
        obtain ⟨wo, hwo⟩ : ∃ wo, wo = wr := ⟨_, rfl⟩
        subst hwo
        go_wp2_with fail
        have zo : base ≤ wo.heap.size := by have := (Array.getElem?_eq_some_iff.1 XX.out).1; omega
        go_loopw [7, 8] (fun bv i wx => ∃ (j : Nat) (b' : Value), j ≤ nc ∧ i = .int .i64 (j : Int) ∧ b' = bv ∧ Hid (wx.ownsRow base 61 3 bv3 K3 (itsC L3) ∧ wx.ownsRow base 5 1 b' (11 * j) ((cdB (x.cd.take j)).map encB) ∧ Below base wo wx)) (fun _ i _ => nc - (intOf i).toNat)
        case atStart => exact ⟨0, _, by omega, rfl, rfl, OO.out, World.ownsRow_nil _ _ _ _, Below.refl _ _⟩
        case round =>
        obtain ⟨j4, b4, hj4, rfl, rfl, hh⟩ := hrel
        have OL := hide hh.out.1
        have OB := hide hh.out.2.1
        have BB := hide hh.out.2.2
        have BR := hide (BW.out.trans (BB.out.mono (by omega)))
        have XR := hide ((BB.out.block w.heap.size (by omega)).trans XX.out)
        have j04 : (0 : Int) ≤ (j4 : Int) := by omega
        have zr4 : base ≤ wr.heap.size := by have := (Array.getElem?_eq_some_iff.1 XR.out).1; omega
        clear hh
        by_cases hlt : j4 < nc
        · have j1 : (j4 : Int) < (nc : Int) := by omega
          obtain ⟨i9, hi9⟩ : ∃ y, x.cd[j4]? = some y := ⟨_, List.getElem?_eq_getElem (by rw [← HNC.out]; exact hlt)⟩
          obtain ⟨hcb, rfl⟩ := HCA.out (by rw [← HNC.out]; omega)
          have hir := HIR.out i9 (List.mem_of_getElem? hi9)
          have c5 : wr.cell? ⟨w.heap.size, 5, none⟩ = some (.slice (some ⟨cb, coff, none⟩) nc ccap) := (Lib.cell_of_heap (j := 5) XR.out).trans rfl
          obtain ⟨e0, e1, e2, e3⟩ := HCI.out j4 i9 hi9
          have d0 := (BR.out.cell (p := ⟨cb, coff + j4 * 4, none⟩) hcb).trans e0
          have d1 := (BR.out.cell (p := ⟨cb, coff + j4 * 4 + 1, none⟩) hcb).trans e1
          have d2 := (BR.out.cell (p := ⟨cb, coff + j4 * 4 + 2, none⟩) hcb).trans e2
          have d3 := (BR.out.cell (p := ⟨cb, coff + j4 * 4 + 3, none⟩) hcb).trans e3
          have HT4 : Hid ((cdB (x.cd.take (j4 + 1))).map encB = (cdB (x.cd.take j4)).map encB ++ ([.int .u8 i9.op, .int .u8 (i9.a / 256), .int .u8 (i9.a % 256), .int .u8 (i9.b / 256), .int .u8 (i9.b % 256)] ++ (hiB i9.n 6).map encB)) := by
            show _ = _
            rw [cdB_take hi9, List.map_append, insB_parts i9 hir]
          have a1 : IntKind.u8.wrap i9.op = i9.op := by have := hir.o0; have := hir.o1; rw [IntKind.wrap_u8]; omega
          have a2 : Int.tdiv i9.a 256 = i9.a / 256 := Int.tdiv_eq_ediv_of_nonneg hir.a0
          have a3 : IntKind.u8.wrap (i9.a / 256) = i9.a / 256 := by have := hir.a0; have := hir.a1; rw [IntKind.wrap_u8]; omega
          have a4 : Int.tmod i9.a 256 = i9.a % 256 := Int.tmod_eq_emod_of_nonneg hir.a0
          have a5 : IntKind.u8.wrap (i9.a % 256) = i9.a % 256 := by rw [IntKind.wrap_u8]; omega
          have a6 : Int.tdiv i9.b 256 = i9.b / 256 := Int.tdiv_eq_ediv_of_nonneg hir.b0
          have a7 : IntKind.u8.wrap (i9.b / 256) = i9.b / 256 := by have := hir.b0; have := hir.b1; rw [IntKind.wrap_u8]; omega
          have a8 : Int.tmod i9.b 256 = i9.b % 256 := Int.tmod_eq_emod_of_nonneg hir.b0
          have a9 : IntKind.u8.wrap (i9.b % 256) = i9.b % 256 := by rw [IntKind.wrap_u8]; omega
          have w1' : IntKind.i64.wrap (i9.a / 256) = i9.a / 256 := by have := hir.a0; have := hir.a1; rw [IntKind.wrap_i64]; omega
          have w2' : IntKind.i64.wrap (i9.b / 256) = i9.b / 256 := by have := hir.b0; have := hir.b1; rw [IntKind.wrap_i64]; omega
          clear e0 e1 e2 e3 hi9 hcb hir
          obtain ⟨p0, p1, p2, p3⟩ := i9
          simp only at d0 d1 d2 d3 HT4 a1 a2 a3 a4 a5 a6 a7 a8 a9 w1' w2'
          generalize p1 / 256 = A1 at *
          generalize p1 % 256 = A0 at *
          generalize p2 / 256 = B1 at *
          generalize p2 % 256 = B0 at *
          have hob : ∀ r, b4.ownBlock = some r → base ≤ r := fun r hr => (OB.out.lt r hr).1
          go_wp2_with (at_builtin; go_must (refine wpList_append_lies _ (by rfl) _ _ _ (by rfl) base 5 i5 _ 1 1 Tryz.underlying78 hi5 hz50 hz51 hz52 rfl (by omega) b4 (11 * j4) _ (by rfl) ((OB.out.alloc _).alloc _) ⟨wr.heap.size + 1, 0, none⟩ 5 5 [.int .u8 p0, .int .u8 A1, .int .u8 A0, .int .u8 B1, .int .u8 B0] (by rfl) (by rfl) (World.news_of_block (cs := #[.int .u8 p0, .int .u8 A1, .int .u8 A0, .int .u8 B1, .int .u8 B0]) (t := 5) (fr := (0, 0)) (Wi.alloc2_at wr _ _)) (by simp [Value.oneCell']) (by omega) (by unfold maxLen; omega) (by omega) (by simp; omega) (wr.heap.size + 2) (by simp) ?_; intro gg cap' w5 hown5 hgrow hat hlt5; have OL5 := hide (((OL.out.alloc _).alloc _).kept hgrow (rows_apart OL.out OB.out (by decide))); have B5 := hide (((BB.out.alloc (by omega) _).alloc (by simp; omega) _).grown hgrow (by simp; omega) hob); have C5 : Hid (w5.heap[wr.heap.size]? = some (.cells #[.int .i64 p0, .int .i64 p1, .int .i64 p2, .int .i64 p3] 41 (0, 0))) := (hgrow.block wr.heap.size (by simp; omega) (fun e => by have := (OB.out.lt _ e.symm).2; omega)).trans ((heap_alloc_old _ _ (by simp)).trans (heap_alloc_new wr _))))
          obtain ⟨P5, hP5⟩ : ∃ P, P = (cdB (x.cd.take j4)).map encB ++ [Value.int .u8 p0, .int .u8 A1, .int .u8 A0, .int .u8 B1, .int .u8 B0] := ⟨_, rfl⟩
          rw [← hP5] at hown5
          rw [← List.append_assoc, ← hP5] at HT4
          have O5 := hide hown5
          obtain ⟨C, hC⟩ : ∃ C, C = wr.heap.size := ⟨_, rfl⟩
          have hCb : base ≤ C := by omega
          rw [← hC] at C5 ⊢
          clear hP5 hown5 hgrow hat hob OB OL BB BR XR d0 d1 d2 d3 c5 a1 a2 a3 a4 a5 a6 a7 a8 a9 w1' w2' hC
          go_loopw [7, 10] (fun bv i wx => ∃ (q : Nat) (b' : Value) (acc : List UInt8), q ≤ 6 ∧ i = .int .i64 ((q : Int) - 1) ∧ b' = bv ∧ Hid (acc ++ hiB p3 q = hiB p3 6) ∧ Hid (wx.ownsRow base 61 3 bv3 K3 (itsC L3) ∧ wx.ownsRow base 5 1 b' (11 * j4 + 5 + acc.length) (P5 ++ acc.map encB) ∧ Below base wo wx ∧ wx.heap[C]? = some (.cells #[.int .i64 p0, .int .i64 p1, .int .i64 p2, .int .i64 p3] 41 (0, 0)))) (fun _ i _ => (intOf i + 1).toNat)
          case atStart => exact ⟨6, _, [], by omega, by go_num, rfl, rfl, OL5.out, by simpa using O5.out, B5.out, C5.out⟩
          case round =>
          clear O5 OL5 B5 C5
          obtain ⟨q, b5, acc, hq6, rfl, rfl, hacc, hh⟩ := hrel
          have OL := hide hh.out.1
          have OB := hide hh.out.2.1
          have BB := hide hh.out.2.2.1
          have CC := hide hh.out.2.2.2
          have hCl : C < wr.heap.size := (Array.getElem?_eq_some_iff.1 CC.out).1
          have hal : acc.length ≤ 6 := by
            have h := congrArg List.length hacc.out
            rw [List.length_append, hiB_length, hiB_length] at h
            omega
          have c3 : wr.cell? ⟨C, 3, none⟩ = some (.int .i64 p3) := (Lib.cell_of_heap (j := 3) CC.out).trans rfl
          clear hh
          cases q with
          | zero =>
            have HE : Hid (acc = hiB p3 6) := by
              have h := hacc.out
              rw [show hiB p3 0 = [] from rfl, List.append_nil] at h
              exact h
            have HL : Hid (acc.length = 6) := by show _ = _; rw [HE.out, hiB_length]
            have OB2 : Hid (wr.ownsRow base 5 1 b5 (11 * (j4 + 1)) ((cdB (x.cd.take (j4 + 1))).map encB)) := by
              have h := OB.out
              rw [HL.out, HE.out] at h
              rw [HT4.out, show 11 * (j4 + 1) = 11 * j4 + 5 + 6 by omega]
              exact h
            clear hacc OB HE HL
            go_wp2
            go_roundw
            case rel => exact ⟨j4 + 1, _, by omega, by go_num, rfl, OL.out, OB2.out, BB.out⟩
            case measure => simp [intOf]; omega
          | succ q =>
            have e1 : ((q + 1 : Nat) : Int) - 1 = (q : Int) := by omega
            rw [e1]
            have q0 : (0 : Int) ≤ (q : Int) := by omega
            have q6 : (q : Int) ≤ 5 := by omega
            have hw8 : IntKind.i64.wrap (8 * (q : Int)) = 8 * (q : Int) := by rw [IntKind.wrap_i64]; omega
            have ht8 : (8 * (q : Int)).toNat = 8 * q := by omega
            have hob : ∀ r, b5.ownBlock = some r → base ≤ r := fun r hr => (OB.out.lt r hr).1
            have HV : Hid (encB (byI p3 q) = .int .u8 (IntKind.u64.wrap p3 / 2 ^ (8 * q) % 256)) := by
              show _ = _
              rw [byI_enc, IntKind.wrap_u64, shr_byte p3 q (by omega)]
            go_wp2_with (at_builtin; go_must (refine wpList_append_lies _ (by rfl) _ _ _ (by rfl) base 5 i5 _ 1 1 Tryz.underlying78 hi5 hz50 hz51 hz52 rfl (by omega) b5 (11 * j4 + 5 + acc.length) _ (by rfl) (OB.out.alloc _) ⟨wr.heap.size, 0, none⟩ 1 1 [.int .u8 (IntKind.u64.wrap p3 / 2 ^ (8 * q) % 256)] (by rfl) (by rfl) (World.news_of_block (cs := #[.int .u8 (IntKind.u64.wrap p3 / 2 ^ (8 * q) % 256)]) (t := 5) (fr := (0, 0)) (heap_alloc_new wr _)) (by simp [Value.oneCell']) (by omega) (by unfold maxLen; omega) (by omega) (by simp; omega) (wr.heap.size + 1) (by simp) ?_; intro gg cap' w6 hown6 hgrow hat hlt6; have OL6 := hide ((OL.out.alloc _).kept hgrow (rows_apart OL.out OB.out (by decide))); have B6 := hide ((BB.out.alloc (by omega) _).grown hgrow (by simp; omega) hob); have C6 : Hid (w6.heap[C]? = some (.cells #[.int .i64 p0, .int .i64 p1, .int .i64 p2, .int .i64 p3] 41 (0, 0))) := (hgrow.block C (by simp; omega) (fun e => blk_apart OB.out CC.out (by decide) e.symm)).trans ((heap_alloc_old _ _ hCl).trans CC.out)))
            go_roundw
            case rel =>
              refine ⟨q, _, acc ++ [byI p3 q], by omega, by go_num, rfl, ?_, OL6.out, ?_, B6.out, C6.out⟩
              · show _ = _
                have h := hacc.out
                rw [hiB] at h
                rw [List.append_assoc]; exact h
              · rw [List.length_append, List.map_append, ← List.append_assoc]
                show w6.ownsRow base 5 1 _ _ (_ ++ [encB (byI p3 q)])
                rw [HV.out]
                exact hown6
            case measure => simp only [intOf]; omega
        · have j1 : ¬ (j4 : Int) < (nc : Int) := by omega
          have hjn : j4 = nc := by omega
          have c5 : wr.cell? ⟨w.heap.size, 5, none⟩ = some (.slice ca nc ccap) := (Lib.cell_of_heap (j := 5) XR.out).trans rfl
          have hlc : (cdB x.cd).length = 11 * j4 := by rw [cdB_length, ← HNC.out, hjn]
          have ho := OB.out
          rw [List.take_of_length_le (by rw [← HNC.out, hjn]; exact Nat.le_refl _)] at ho
          have hoF := ho.form (by omega)
          obtain ⟨g8, cap8, rfl, _, _⟩ := hoF
          have hconv := run_convert_bytes_back (P := Tryz.prog) wr 78 9 5 ⟨g8, 0, none⟩ cap8 (cdB x.cd) Tryz.underlying78 Tryz.underlying5 Tryz.underlying9 (fun i hi => by
            rw [hlc] at hi
            rw [Wi.addr_add, ho.cellAt i (by omega), List.getElem?_map, List.getElem?_eq_getElem (by rw [hlc]; exact hi)]; rfl)
          rw [hlc] at hconv
          obtain ⟨T, hT⟩ : ∃ T : ByteArray, Hid (T = ⟨(cdB x.cd).toArray⟩) := ⟨_, rfl⟩
          rw [← hT.out] at hconv
          have hob : ∀ r, bv3.ownBlock = some r → base ≤ r := fun r hr => (OL.out.lt r hr).1
          have hK3c : K3 ≤ 7000 := hK3b
          clear ho OB hlc hlt hjn
          generalize 11 * j4 = jj at *
          go_wp2_with (at_builtin; go_must (refine wpList_append_lies _ (by rfl) _ _ _ (by rfl) base 61 i0 _ 3 32 Tryz.underlying45 hi hz0 hz1 hz2 rfl (by omega) bv3 K3 _ (by rfl) (OL.out.alloc _) ⟨wr.heap.size, 0, none⟩ 1 1 [.bool true, .int .i64 0, .string T] (by rfl) (by rfl) (World.news_of_block (cs := #[.bool true, .int .i64 0, .string T]) (t := 61) (fr := (0, 0)) (heap_alloc_new wr _)) (by simp [Value.oneCell']) (by omega) (by unfold maxLen; omega) (by omega) (by simp; omega) (wr.heap.size + 1) (by simp) ?_; intro gg cap' w7 hown7 hgrow hat hlt7; have B7 := hide ((BR.out.alloc BR.out.size _).grown hgrow (by simp; omega) (fun r hr => Nat.le_trans (by omega) (hob r hr)))))
          go_ret
          refine ⟨_, rfl, ?_, B7.out⟩
          have h7 : w7.ownsRow base 61 3 (.slice (some ⟨gg, 0, none⟩) (K3 + 1) cap') (K3 + 1) (itsC (itP x)) := by
            rw [HP.out, its_one, show tIt (cdB x.cd) = ⟨true, 0, T⟩ from by rw [hT.out]; rfl]
            exact hown7
          have hl := h7.1
          rw [Wi.itsC_length] at hl
          have hlen : (itP x).length = K3 + 1 := by omega
          refine Wi.Lst.of_owns (base := base) ?_
          rw [hlen]; exact h7
end Go.Proofs.YtmbgcpmapaedcaaGreatDoor
