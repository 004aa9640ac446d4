/- code: imageOf. -/
import Derived.Test.YtmbgcpmapaedcaaGreatDoorDeG
namespace Go.Proofs.YtmbgcpmapaedcaaGreatDoor
open Go.RowKit
open Wi (It itA ItsAt)
/-- types and first values out of a list's front -/
def takP : Nat → List It → (List Int × List Int) × List It
  | 0, l => (([], []), l)
  | n + 1, l => (((l.headD it0).n :: (takP n l.tail.tail).1.1, (l.tail.headD it0).n :: (takP n l.tail.tail).1.2), (takP n l.tail.tail).2)
theorem takP_next : ∀ (n : Nat) (l : List It), takP (n + 1) l = (((takP n l).1.1 ++ [((takP n l).2.headD it0).n], (takP n l).1.2 ++ [((takP n l).2.tail.headD it0).n]), (takP n l).2.tail.tail)
  | 0, l => rfl
  | n + 1, l => by rw [takP, takP_next n l.tail.tail, takP]; rfl
theorem takP_rest : ∀ (n : Nat) (l : List It), (takP n l).2 = l.drop (2 * n)
  | 0, _ => rfl
  | n + 1, l => by rw [takP, takP_rest n, show 2 * (n + 1) = 2 * n + 1 + 1 by omega]; cases l with | nil => simp | cons a r => cases r <;> simp
theorem takP_len : ∀ (n : Nat) (l : List It), (takP n l).1.1.length = n ∧ (takP n l).1.2.length = n
  | 0, _ => ⟨rfl, rfl⟩
  | n + 1, l => by rw [takP]; exact ⟨congrArg (· + 1) (takP_len n _).1, congrArg (· + 1) (takP_len n _).2⟩
def restP (l : List It) : List It := (takP (cntP l.tail) l.tail.tail).2
/-- the image of items: as good a guess as they allow -/
def imgV (l : List It) : Img :=
  { name := (l.headD it0).s.data.toList, ty := (takP (cntP l.tail) l.tail.tail).1.1, fi := (takP (cntP l.tail) l.tail.tail).1.2, ins := (linP (restP l)).1, outs := (linP (linP (restP l)).2).1, cd := cdV ((linP (linP (restP l)).2).2.headD it0).s.data.toList }
theorem lin_rest (l : List It) : (linP l).2.length ≤ l.length := by
  unfold linP
  rw [takN_rest, List.length_drop, List.length_tail]; omega
theorem rest_len (l : List It) : (restP l).length ≤ l.length := by
  unfold restP
  rw [takP_rest, List.length_drop, List.length_tail, List.length_tail]; omega
set_option maxRecDepth 100000 in
set_option maxHeartbeats 3200000 in
theorem image_any (v : Value) (l : List It) (w : World) (hL : w.ownsRow 0 61 3 v l.length (Wi.itsC l)) (hl : l.length ≤ 1000) (hs : ∀ x ∈ l, x.s.size ≤ 65536) :
    Calls Tryz.prog 30 #[v] w fun e w' => ∃ tv fv iv ov cv, e = .returned (.agg #[.string ⟨(imgV l).name.toArray⟩, tv, fv, iv, ov, cv]) ∧ ImF w.heap.size w' (.string ⟨(imgV l).name.toArray⟩) tv fv iv ov cv (imgV l) ∧ (∀ a n c, tv = .slice a n c → n ≤ c) ∧ Below w.heap.size w w' := by
  obtain ⟨i3, hi3, hz30, hz31, hz32⟩ := info_parts info3
  obtain ⟨i2, hi2, hz20, hz21, hz22⟩ := info_parts info2
  obtain ⟨R, hR⟩ : ∃ R, R = w.heap.size + 1 := ⟨_, rfl⟩
  obtain ⟨B, hB⟩ : ∃ B, B = w.heap.size + 2 := ⟨_, rfl⟩
  have rd0 : Hid (∀ A, Rd B ((w.alloc A).alloc (.cells #[v] 96)) R l) := fun A => by
    have hw2 : ((w.alloc A).alloc (.cells #[v] 96)).heap[R]? = some (.cells #[v] 96 (0, 0)) := by
      rw [hR, show w.heap.size + 1 = (w.alloc A).heap.size by simp]; exact heap_alloc_new _ _
    have hLst := Wi.Lst.of_owns hL
    obtain ⟨a0, c0, hv, hcap⟩ := owns_slice hL
    obtain ⟨a, b, off, cap, hv2, hA, hI⟩ := hLst
    subst hv
    obtain ⟨rfl, -, rfl⟩ : a0 = a ∧ l.length = l.length ∧ c0 = cap := by injection hv2 with h1 h2 h3; exact ⟨h1, rfl, h3⟩
    have hsz : ((w.alloc A).alloc (.cells #[.slice a0 l.length c0] 96)).heap.size = w.heap.size + 2 := by simp
    by_cases h0 : 0 < l.length
    · obtain ⟨hb, rfl⟩ := hA h0
      refine ⟨by omega, by omega, _, b, off, c0, hw2, hcap, by omega, fun _ => ⟨by omega, rfl⟩, its_below hI fun _ => ?_⟩
      rw [heap_alloc_old _ _ (by simp; omega), heap_alloc_old _ _ hb]
    · have hn : l = [] := List.eq_nil_of_length_eq_zero (by omega)
      refine ⟨by omega, by omega, _, 0, 0, c0, hw2, hcap, by omega, fun h => absurd h h0, fun i x hx => by rw [hn] at hx; cases hx⟩
  have n1 : Hid (∀ W, Rd B W R l → Calls Tryz.prog 62 #[.pointer (some ⟨R, 0, none⟩)] W fun e w' => e = .returned (itA (l.headD it0)) ∧ Rd B w' R l.tail ∧ But R W w') := fun W h => next_any B R l W h hl
  obtain ⟨M, hM⟩ : ∃ M, M = cntP l.tail := ⟨_, rfl⟩
  have ht1 : l.tail.length ≤ 1000 := by rw [List.length_tail]; omega
  have hM2 : M ≤ 1000 := by have := cntP_le l.tail; rw [List.length_tail] at this; omega
  have n2 : Hid (∀ W, Rd B W R l.tail → Calls Tryz.prog 63 #[.pointer (some ⟨R, 0, none⟩)] W fun e w' => e = .returned (.int .i64 (M : Int)) ∧ Rd B w' R l.tail.tail ∧ But R W w') := fun W h => by rw [hM]; exact count13_any B R l.tail W h ht1
  obtain ⟨q, hq⟩ : ∃ q, q = l.tail.tail := ⟨_, rfl⟩
  have hql : q.length ≤ 1000 := by rw [hq, List.length_tail, List.length_tail]; omega
  rw [← hq] at n2
  have HI : Hid (imgV l = { name := (l.headD it0).s.data.toList, ty := (takP M q).1.1, fi := (takP M q).1.2, ins := (linP (takP M q).2).1, outs := (linP (linP (takP M q).2).2).1, cd := cdV ((linP (linP (takP M q).2).2).2.headD it0).s.data.toList }) := by show _ = _; rw [hM, hq]; rfl
  have HD : Hid (∀ x : It, x ∈ q → x.s.size ≤ 65536) := fun x hx => hs x (List.mem_of_mem_tail (List.mem_of_mem_tail (hq ▸ hx)))
  rw [HI.out]
  show Calls Tryz.prog 30 #[v] w fun e w' => ∃ tv fv iv ov cv, e = .returned (.agg #[.string ⟨(l.headD it0).s.data.toList.toArray⟩, tv, fv, iv, ov, cv]) ∧ _
  obtain ⟨x0, hx0⟩ : ∃ x0, x0 = l.headD it0 := ⟨_, rfl⟩
  rw [← hx0] at n1 ⊢
  obtain ⟨xt, xn, xs⟩ := x0
  have HX : Hid ((⟨xs.data.toList.toArray⟩ : ByteArray) = xs) := (Wi.of_list xs _ rfl).symm
  show Calls Tryz.prog 30 #[v] w fun e w' => ∃ tv fv iv ov cv, e = .returned (.agg #[.string ⟨xs.data.toList.toArray⟩, tv, fv, iv, ov, cv]) ∧ ImF w.heap.size w' (.string ⟨xs.data.toList.toArray⟩) tv fv iv ov cv _ ∧ _
  rw [HX.out]
  have hc1 : Hid (∀ k W, Rd B W R (takP k q).2 → Calls Tryz.prog 62 #[.pointer (some ⟨R, 0, none⟩)] W fun e w' => e = .returned (itA ((takP k q).2.headD it0)) ∧ Rd B w' R (takP k q).2.tail ∧ But R W w') := fun k W h => next_any B R _ W h (by rw [takP_rest, List.length_drop]; omega)
  have hc2 : Hid (∀ k W, Rd B W R (takP k q).2.tail → Calls Tryz.prog 62 #[.pointer (some ⟨R, 0, none⟩)] W fun e w' => e = .returned (itA ((takP k q).2.tail.headD it0)) ∧ Rd B w' R (takP k q).2.tail.tail ∧ But R W w') := fun k W h => next_any B R _ W h (by rw [List.length_tail, takP_rest, List.length_drop]; omega)
  have y1 := fld_s xt xn xs
  obtain ⟨va, vc, hv, -⟩ := owns_slice hL
  subst hv
  clear hL hs hx0 hq hM HI
  subst hR
  go_enter Tryz.func30, Tryz.ntmps30
  go_wp2_with fail
  refine (n1.out _ (rd0.out _)).mono ?_
  rintro e w1 ⟨rfl, hr1, hb1⟩
  have J1 : Hid (ImJ w B w1.heap.size xs (.slice none 0 0) (.slice none 0 0) (.slice none 0 0) (.slice none 0 0) (.slice none 0 0) [] [] l.tail (w1.alloc (.cells #[.string xs, .slice none 0 0, .slice none 0 0, .slice none 0 0, .slice none 0 0, .slice none 0 0] 26))) := by
    have z1 := hb1.size
    simp only [World.size_alloc] at z1
    have hb0 : Below w.heap.size w w1 := ⟨hb1.os, hb1.tape, hb1.output, by omega, fun k hk => (hb1.block k (by simp; omega) (fun e => by have : k = w.heap.size + 1 := Option.some.inj e; omega)).trans (by rw [heap_alloc_old _ _ (by simp; omega), heap_alloc_old _ _ hk])⟩
    refine ⟨hb0.alloc (by omega) _, ?_, hr1.on ((Below.refl _ _).alloc (by omega) _), heap_alloc_new _ _, World.ownsRow_nil _ _ _ _, World.ownsRow_nil _ _ _ _, fun r hr => (by cases hr), hB, by omega⟩
    rw [heap_alloc_old _ _ (by omega), hb1.block _ (by simp; omega) (fun e => by have : w.heap.size = w.heap.size + 1 := Option.some.inj e; omega), heap_alloc_old _ _ (by simp), heap_alloc_new]
  have z1 := hb1.size
  simp only [World.size_alloc] at z1
  unfold itA
  clear hr1 hb1 rd0
  go_wp2_with fail
  refine (n2.out _ J1.out.rd).mono ?_
  rintro e w2 ⟨rfl, hr2, hb2⟩
  have J2 := hide (J1.out.next hb2 hr2)
  obtain ⟨X, hX⟩ : ∃ X, X = w1.heap.size := ⟨_, rfl⟩
  rw [← hX] at J2 ⊢
  clear hr2 hb2 J1 n1 n2 hX z1 y1
  go_wp2_with fail
  go_loopw [14] (fun i wr => ∃ k : Nat, k ≤ M ∧ i = .int .i64 (k : Int) ∧ Hid (∃ tv fv, ImJ w B X xs tv fv (.slice none 0 0) (.slice none 0 0) (.slice none 0 0) (takP k q).1.1 (takP k q).1.2 (takP k q).2 wr)) (fun i _ => M - (intOf i).toNat)
  case atStart => exact ⟨0, by omega, rfl, _, _, J2.out⟩
  case round =>
    obtain ⟨k, hk, rfl, hh⟩ := hrel
    obtain ⟨tv, fv, hJ⟩ := hh.out
    have JJ := hide hJ
    have k0 : (0 : Int) ≤ (k : Int) := by omega
    clear hh hJ J2
    by_cases hlt : k < M
    · have j1 : (k : Int) < (M : Int) := by omega
      have HN := hide (takP_next k q)
      have hlA : (takP k q).1.1.length ≤ 1000 := by rw [(takP_len k q).1]; omega
      have hlB : (takP k q).1.2.length ≤ 1000 := by rw [(takP_len k q).2]; omega
      go_wp2_with fail
      have JAa := hide JJ.out.drew
      have cAa : wr.drew.cell? ⟨X, 1, none⟩ = some tv := (Lib.cell_of_heap (j := 1) JAa.out.x).trans rfl
      have CAa := hide (hc1.out k _ JAa.out.rd)
      obtain ⟨ya, hya⟩ : ∃ y, y = (takP k q).2.headD it0 := ⟨_, rfl⟩
      rw [← hya] at CAa HN
      obtain ⟨yta, yna, ysa⟩ := ya
      have f1a := fld_n yta yna ysa
      clear hya
      unfold itA at CAa
      refine region_L (S := fun W => W.cell? ⟨X, 1, none⟩ = some tv) (L := 8) (by kernel_rfl) ?_
      refine tkL 0 (.pointer (some ⟨X, 1, none⟩)) cAa ?_
      refine tkL 1 tv cAa ?_
      refine tkL 2 (.pointer (some ⟨w.heap.size + 1, 0, none⟩)) cAa ?_
      refine rdL 3 (fun K hK => ?_)
      go_simp
      refine CAa.out.mono ?_
      rintro e w3a ⟨rfl, hr3, hb3⟩
      have JBa := hide (JAa.out.next hb3 hr3)
      have cBa : w3a.cell? ⟨X, 1, none⟩ = some tv := (Lib.cell_of_heap (j := 1) JBa.out.x).trans rfl
      have zXa := JBa.out.ltX
      refine hK.out _ _ (fun _ => cBa) ?_
      clear hK K hr3 hb3 cAa CAa JAa JJ
      refine tkL 4 (.int .i64 yna) cBa ?_
      try simp only [Act.put, List.setIfInBounds_toArray, List.set_cons_zero, List.set_cons_succ]
      refine rdL 5 (fun K hK => ?_)
      go_simp
      have cCa : ∀ A, (w3a.alloc A).cell? ⟨X, 1, none⟩ = some tv := fun A => (World.cell?_alloc_lt _ _ ⟨X, 1, none⟩ zXa).trans cBa
      refine hK.out _ _ (fun _ => cCa _) ?_
      clear hK K
      try simp only [Act.put, List.setIfInBounds_toArray, List.set_cons_zero, List.set_cons_succ]
      refine rdL 6 (fun K hK => ?_)
      refine wp_append_lies _ _ _ _ (by rfl) (X + 1) 3 i3 _ 1 8 Tryz.underlying22 hi3 hz30 hz31 hz32 rfl (by omega) tv (takP k q).1.1.length _ (by rfl) (JBa.out.ty.alloc _) ⟨w3a.heap.size, 0, none⟩ 1 1 [.int .i64 yna] (by rfl) (by rfl) (World.news_of_block (cs := #[.int .i64 yna]) (t := 3) (fr := (0, 0)) (heap_alloc_new w3a _)) (by simp [Value.oneCell']) (by omega) (by unfold maxLen; omega) (by omega) (by simp; omega) (w3a.heap.size + 1) (by simp) ?_
      intro gga capa w4a hown hgrow hat hlt3
      have JCa := hide (JBa.out.tyApp hown hgrow hat)
      have xfa : w4a.heap[X]? = w3a.heap[X]? := (((Below.refl (X + 1) w3a).alloc (by omega) _).grown hgrow (by simp; omega) (fun r hr => ((JBa.out.ty.lt r hr).1))).block X (by omega)
      have cDa : w4a.cell? ⟨X, 1, none⟩ = some tv := (World.cell?_of_block (w := w3a) (a := ⟨X, 1, none⟩) xfa).trans cBa
      have fDa : w4a.frozen? ⟨X, 1, none⟩ = false := Lib.frozen_of_heap (xfa.trans JBa.out.x) 1
      refine hK.out _ _ (fun _ => cDa) ?_
      clear hK K hown hgrow hat hlt3 xfa cCa cBa JBa
      try simp only [Act.put, List.setIfInBounds_toArray, List.set_cons_zero, List.set_cons_succ]
      refine tkL 7 (.pointer (some ⟨X, 1, none⟩)) cDa ?_
      try simp only [Act.put, List.setIfInBounds_toArray, List.set_cons_zero, List.set_cons_succ]
      refine rdL 8 (fun K hK => ?_)
      go_simp
      refine hK.out _ _ (fun h => absurd rfl h) ?_
      clear hK K cDa fDa
      try simp only [Act.put, List.setIfInBounds_toArray, List.set_cons_zero, List.set_cons_succ]
      refine doneL ?_
      generalize hT : (Value.slice (some ⟨gga, 0, none⟩) ((takP k q).1.1.length + 1) capa) = tv2 at *
      generalize hW5 : w4a.setCell ⟨X, 1, none⟩ tv2 = w5 at *
      clear hT hW5
      go_wp2_with fail
      have JAb := hide JCa.out.drew
      have cAb : w5.drew.cell? ⟨X, 2, none⟩ = some fv := (Lib.cell_of_heap (j := 2) JAb.out.x).trans rfl
      have CAb := hide (hc2.out k _ JAb.out.rd)
      obtain ⟨yb, hyb⟩ : ∃ y, y = (takP k q).2.tail.headD it0 := ⟨_, rfl⟩
      rw [← hyb] at CAb HN
      obtain ⟨ytb, ynb, ysb⟩ := yb
      have f1b := fld_n ytb ynb ysb
      clear hyb
      unfold itA at CAb
      refine region_L (S := fun W => W.cell? ⟨X, 2, none⟩ = some fv) (L := 8) (by kernel_rfl) ?_
      refine tkL 0 (.pointer (some ⟨X, 2, none⟩)) cAb ?_
      refine tkL 1 fv cAb ?_
      refine tkL 2 (.pointer (some ⟨w.heap.size + 1, 0, none⟩)) cAb ?_
      try simp only [Act.put, List.setIfInBounds_toArray, List.set_cons_zero, List.set_cons_succ]
      refine rdL 3 (fun K hK => ?_)
      go_simp
      refine CAb.out.mono ?_
      rintro e w3b ⟨rfl, hr3, hb3⟩
      have JBb := hide (JAb.out.next hb3 hr3)
      have cBb : w3b.cell? ⟨X, 2, none⟩ = some fv := (Lib.cell_of_heap (j := 2) JBb.out.x).trans rfl
      have zXb := JBb.out.ltX
      refine hK.out _ _ (fun _ => cBb) ?_
      clear hK K hr3 hb3 cAb CAb JAb JCa
      refine tkL 4 (.int .i64 ynb) cBb ?_
      try simp only [Act.put, List.setIfInBounds_toArray, List.set_cons_zero, List.set_cons_succ]
      refine rdL 5 (fun K hK => ?_)
      go_simp
      have cCb : ∀ A, (w3b.alloc A).cell? ⟨X, 2, none⟩ = some fv := fun A => (World.cell?_alloc_lt _ _ ⟨X, 2, none⟩ zXb).trans cBb
      refine hK.out _ _ (fun _ => cCb _) ?_
      clear hK K
      try simp only [Act.put, List.setIfInBounds_toArray, List.set_cons_zero, List.set_cons_succ]
      refine rdL 6 (fun K hK => ?_)
      refine wp_append_lies _ _ _ _ (by rfl) (X + 1) 2 i2 _ 1 8 Tryz.underlying23 hi2 hz20 hz21 hz22 rfl (by omega) fv (takP k q).1.2.length _ (by rfl) (JBb.out.fi.alloc _) ⟨w3b.heap.size, 0, none⟩ 1 1 [.int .i64 ynb] (by rfl) (by rfl) (World.news_of_block (cs := #[.int .i64 ynb]) (t := 2) (fr := (0, 0)) (heap_alloc_new w3b _)) (by simp [Value.oneCell']) (by omega) (by unfold maxLen; omega) (by omega) (by simp; omega) (w3b.heap.size + 1) (by simp) ?_
      intro ggb capb w4b hown hgrow hat hlt3
      have JCb := hide (JBb.out.fiApp hown hgrow hat)
      have xfb : w4b.heap[X]? = w3b.heap[X]? := (((Below.refl (X + 1) w3b).alloc (by omega) _).grown hgrow (by simp; omega) (fun r hr => ((JBb.out.fi.lt r hr).1))).block X (by omega)
      have cDb : w4b.cell? ⟨X, 2, none⟩ = some fv := (World.cell?_of_block (w := w3b) (a := ⟨X, 2, none⟩) xfb).trans cBb
      have fDb : w4b.frozen? ⟨X, 2, none⟩ = false := Lib.frozen_of_heap (xfb.trans JBb.out.x) 2
      refine hK.out _ _ (fun _ => cDb) ?_
      clear hK K hown hgrow hat hlt3 xfb cCb cBb JBb
      try simp only [Act.put, List.setIfInBounds_toArray, List.set_cons_zero, List.set_cons_succ]
      refine tkL 7 (.pointer (some ⟨X, 2, none⟩)) cDb ?_
      try simp only [Act.put, List.setIfInBounds_toArray, List.set_cons_zero, List.set_cons_succ]
      refine rdL 8 (fun K hK => ?_)
      go_simp
      refine hK.out _ _ (fun h => absurd rfl h) ?_
      clear hK K cDb fDb
      try simp only [Act.put, List.setIfInBounds_toArray, List.set_cons_zero, List.set_cons_succ]
      refine doneL ?_
      generalize hT : (Value.slice (some ⟨ggb, 0, none⟩) ((takP k q).1.2.length + 1) capb) = fv2 at *
      generalize hW5 : w4b.setCell ⟨X, 2, none⟩ fv2 = w6 at *
      clear hT hW5
      go_wp2
      go_roundw
      case rel => exact ⟨k + 1, by omega, by go_num, _, _, by rw [HN.out]; exact JCb.out⟩
      case measure => simp [intOf]; omega
    · obtain rfl : k = M := by omega
      obtain ⟨r1, hr1⟩ : ∃ r, r = (takP k q).2 := ⟨_, rfl⟩
      have hl1 : r1.length ≤ 1000 := by rw [hr1, takP_rest, List.length_drop]; omega
      have hl2 : (linP r1).2.length ≤ 1000 := Nat.le_trans (lin_rest _) hl1
      have hl3 : (linP (linP r1).2).2.length ≤ 1000 := Nat.le_trans (lin_rest _) hl2
      have m1 : Hid (∀ W, Rd B W (w.heap.size + 1) r1 → Calls Tryz.prog 64 #[.pointer (some ⟨w.heap.size + 1, 0, none⟩)] W fun e w' => ∃ v, e = .returned v ∧ w'.ownsRow W.heap.size 3 1 v (linP r1).1.length (intC (linP r1).1) ∧ Rd B w' (w.heap.size + 1) (linP r1).2 ∧ But (w.heap.size + 1) W w') := fun W h => lines13_any B _ r1 W h hl1
      have m2 : Hid (∀ W, Rd B W (w.heap.size + 1) (linP r1).2 → Calls Tryz.prog 64 #[.pointer (some ⟨w.heap.size + 1, 0, none⟩)] W fun e w' => ∃ v, e = .returned v ∧ w'.ownsRow W.heap.size 3 1 v (linP (linP r1).2).1.length (intC (linP (linP r1).2).1) ∧ Rd B w' (w.heap.size + 1) (linP (linP r1).2).2 ∧ But (w.heap.size + 1) W w') := fun W h => lines13_any B _ _ W h hl2
      have m3 : Hid (∀ W, Rd B W (w.heap.size + 1) (linP (linP r1).2).2 → Calls Tryz.prog 62 #[.pointer (some ⟨w.heap.size + 1, 0, none⟩)] W fun e w' => e = .returned (itA ((linP (linP r1).2).2.headD it0)) ∧ Rd B w' (w.heap.size + 1) (linP (linP r1).2).2.tail ∧ But (w.heap.size + 1) W w') := fun W h => next_any B _ _ W h hl3
      have hsz : Hid (((linP (linP r1).2).2.headD it0).s.size ≤ 65536) := by
        show _ ≤ _
        unfold linP
        rw [takN_rest, takN_rest, hr1, takP_rest]
        cases hh : (List.drop (cntP (List.drop (cntP (List.drop (2 * k) q)) (List.drop (2 * k) q).tail)) (List.drop (cntP (List.drop (2 * k) q)) (List.drop (2 * k) q).tail).tail) with
        | nil => exact Nat.zero_le _
        | cons z r =>
          refine HD.out z (List.mem_of_mem_drop (i := 2 * k) (List.mem_of_mem_tail (List.mem_of_mem_drop (i := cntP (List.drop (2 * k) q)) (List.mem_of_mem_tail (List.mem_of_mem_drop (i := cntP (List.drop (cntP (List.drop (2 * k) q)) (List.drop (2 * k) q).tail)) ?_)))))
          rw [hh]; exact List.mem_cons_self
      rw [← hr1] at JJ
      have HR1 := hide hr1
      clear hr1
      obtain ⟨z, hz⟩ : ∃ z, z = (linP (linP r1).2).2.headD it0 := ⟨_, rfl⟩
      rw [← hz] at m3 hsz
      obtain ⟨zt, zn, zs⟩ := z
      have HZ := hide hz
      clear hz
      have m4 : Hid (∀ W, Calls Tryz.prog 65 #[.string zs] W fun e w' => ∃ v, e = .returned v ∧ w'.ownsRow W.heap.size 41 4 v (cdV zs.data.toList).length (inC (cdV zs.data.toList)) ∧ Below W.heap.size W w') := fun W => codeOf_any zs _ rfl (by rw [Wi.text_len]; exact hsz.out) W
      have y2 := fld_s zt zn zs
      unfold itA at m3
      have zX := JJ.out.hX
      have zB := JJ.out.hB
      obtain ⟨ta, tc, htv, htc⟩ := owns_slice JJ.out.ty
      obtain ⟨fa, fc, hfv, -⟩ := owns_slice JJ.out.fi
      obtain ⟨tn, htn⟩ : ∃ n, n = (takP k q).1.1.length := ⟨_, rfl⟩
      obtain ⟨fn, hfn⟩ : ∃ n, n = (takP k q).1.2.length := ⟨_, rfl⟩
      rw [← htn] at htv htc
      rw [← hfn] at hfv
      have HC := hide htc
      clear htn hfn htc
      subst htv hfv
      go_wp2_with fail
      refine (m1.out _ JJ.out.rd).mono ?_
      rintro e w3 ⟨iv, rfl, ho3, hr3, hb3⟩
      obtain ⟨ia, ic, hiv, -⟩ := owns_slice ho3
      obtain ⟨in_, hin⟩ : ∃ n, n = (linP r1).1.length := ⟨_, rfl⟩
      rw [← hin] at hiv
      clear hin
      subst hiv
      have J1 := hide (JJ.out.next hb3 hr3)
      have O1 := hide (Wi.owns_base ho3 (b := X + 1) JJ.out.ltX)
      have c1 : w3.cell? ⟨X, 3, none⟩ = some (.slice none 0 0) := (Lib.cell_of_heap (j := 3) J1.out.x).trans rfl
      have f1 : w3.frozen? ⟨X, 3, none⟩ = false := Lib.frozen_of_heap J1.out.x 3
      clear ho3 hr3 hb3 m1 JJ
      go_wp2_with fail
      have J2 := hide (J1.out.set 3 (.slice ia in_ ic) (.slice ia in_ ic) (.slice none 0 0) (.slice none 0 0) rfl)
      have O2 := hide (Wi.owns_set O1.out X 3 (by omega) (.slice ia in_ ic))
      clear J1 O1 c1 f1
      generalize w3.setCell ⟨X, 3, none⟩ (.slice ia in_ ic) = w4 at *
      refine (m2.out _ J2.out.rd).mono ?_
      rintro e w5 ⟨ov, rfl, ho5, hr5, hb5⟩
      obtain ⟨oa, oc, hov, -⟩ := owns_slice ho5
      obtain ⟨on_, hon⟩ : ∃ n, n = (linP (linP r1).2).1.length := ⟨_, rfl⟩
      rw [← hon] at hov
      clear hon
      subst hov
      have J3 := hide (J2.out.next hb5 hr5)
      have O3 := hide (O2.out.kept hb5 (.inr fun e => by have := (O2.out.lt _ e).1; omega))
      have P3 := hide (Wi.owns_base ho5 (b := X + 1) J2.out.ltX)
      have c3 : w5.cell? ⟨X, 4, none⟩ = some (.slice none 0 0) := (Lib.cell_of_heap (j := 4) J3.out.x).trans rfl
      have f3 : w5.frozen? ⟨X, 4, none⟩ = false := Lib.frozen_of_heap J3.out.x 4
      clear ho5 hr5 hb5 m2 J2 O2
      go_wp2_with fail
      have J4 := hide (J3.out.set 4 (.slice oa on_ oc) (.slice ia in_ ic) (.slice oa on_ oc) (.slice none 0 0) rfl)
      have O4 := hide (Wi.owns_set O3.out X 4 (by omega) (.slice oa on_ oc))
      have P4 := hide (Wi.owns_set P3.out X 4 (by omega) (.slice oa on_ oc))
      clear J3 O3 P3 c3 f3
      generalize w5.setCell ⟨X, 4, none⟩ (.slice oa on_ oc) = w6 at *
      refine (m3.out _ J4.out.rd).mono ?_
      rintro e w7 ⟨rfl, hr7, hb7⟩
      have J5 := hide (J4.out.next hb7 hr7)
      have O5 := hide (O4.out.kept hb7 (.inr fun e => by have := (O4.out.lt _ e).1; omega))
      have P5 := hide (P4.out.kept hb7 (.inr fun e => by have := (P4.out.lt _ e).1; omega))
      clear hr7 hb7 m3 J4 O4 P4
      go_wp2_with fail
      refine (m4.out _).mono ?_
      rintro e w8 ⟨cv, rfl, ho8, hb8⟩
      obtain ⟨ca, cc, hcv, -⟩ := owns_slice ho8
      obtain ⟨cn, hcn⟩ : ∃ n, n = (cdV zs.data.toList).length := ⟨_, rfl⟩
      rw [← hcn] at hcv
      clear hcn
      subst hcv
      have J6 := hide (J5.out.on hb8)
      have O6 := hide (owns_below O5.out hb8)
      have P6 := hide (owns_below P5.out hb8)
      have C6 := hide (Wi.owns_base ho8 (b := X + 1) J5.out.ltX)
      have c5 : w8.cell? ⟨X, 5, none⟩ = some (.slice none 0 0) := (Lib.cell_of_heap (j := 5) J6.out.x).trans rfl
      have f5 : w8.frozen? ⟨X, 5, none⟩ = false := Lib.frozen_of_heap J6.out.x 5
      have J7 := hide (J6.out.set 5 (.slice ca cn cc) (.slice ia in_ ic) (.slice oa on_ oc) (.slice ca cn cc) rfl)
      have O7 := hide (Wi.owns_set O6.out X 5 (by omega) (.slice ca cn cc))
      have P7 := hide (Wi.owns_set P6.out X 5 (by omega) (.slice ca cn cc))
      have C7 := hide (Wi.owns_set C6.out X 5 (by omega) (.slice ca cn cc))
      clear ho8 hb8 m4 J5 O5 P5 J6 O6 P6 C6
      obtain ⟨w9, h9⟩ : ∃ w9, w9 = w8.setCell ⟨X, 5, none⟩ (.slice ca cn cc) := ⟨_, rfl⟩
      rw [← h9] at J7 O7 P7 C7
      have g : ∀ j v, (#[Value.string xs, .slice ta tn tc, .slice fa fn fc, .slice ia in_ ic, .slice oa on_ oc, .slice ca cn cc] : Array Value)[j]? = some v → w9.cell? ⟨X, j, none⟩ = some v := fun j v h => (Lib.cell_of_heap (j := j) J7.out.x).trans h
      have g0 := g 0 _ rfl
      have g1 := g 1 _ rfl
      have g2 := g 2 _ rfl
      have g3 := g 3 _ rfl
      have g4 := g 4 _ rfl
      have g5 := g 5 _ rfl
      have r : ∀ j v, (#[Value.string ⟨#[]⟩, .slice none 0 0, .slice none 0 0, .slice none 0 0, .slice none 0 0, .slice none 0 0] : Array Value)[j]? = some v → w9.cell? ⟨w.heap.size, j, none⟩ = some v := fun j v h => (Lib.cell_of_heap (j := j) J7.out.res).trans h
      have r0 := r 0 _ rfl
      have r1' := r 1 _ rfl
      have r2 := r 2 _ rfl
      have r3 := r 3 _ rfl
      have r4 := r 4 _ rfl
      have r5 := r 5 _ rfl
      have s : ∀ j, w9.frozen? ⟨w.heap.size, j, none⟩ = false := fun j => Lib.frozen_of_heap J7.out.res j
      have H9 := hide h9
      rw [h9] at g0 g1 g2 g3 g4 g5 r0 r1' r2 r3 r4 r5 s
      clear g r h9
      go_wp2_with fail
      clear g0 g1 g2 g3 g4 g5 r0 r1' r2 r3 r4 r5 s
      rw [← H9.out]
      obtain ⟨W, hW⟩ : ∃ W, W = set6 w9 w.heap.size (.string xs) (.slice ta tn tc) (.slice fa fn fc) (.slice ia in_ ic) (.slice oa on_ oc) (.slice ca cn cc) := ⟨_, rfl⟩
      have hres : W.heap[w.heap.size]? = some (.cells #[.string xs, .slice ta tn tc, .slice fa fn fc, .slice ia in_ ic, .slice oa on_ oc, .slice ca cn cc] 26 (0, 0)) := by rw [hW]; exact heap6 J7.out.res
      have bW : Below w.heap.size w W := by rw [hW]; exact below6 J7.out.below (Nat.le_refl _)
      have T8 := owns6 (Z := w.heap.size) (a := .string xs) (b := .slice ta tn tc) (c := .slice fa fn fc) (d := .slice ia in_ ic) (e := .slice oa on_ oc) (f := .slice ca cn cc) J7.out.ty (by omega)
      have F8 := owns6 (Z := w.heap.size) (a := .string xs) (b := .slice ta tn tc) (c := .slice fa fn fc) (d := .slice ia in_ ic) (e := .slice oa on_ oc) (f := .slice ca cn cc) J7.out.fi (by omega)
      have O8 := owns6 (Z := w.heap.size) (a := .string xs) (b := .slice ta tn tc) (c := .slice fa fn fc) (d := .slice ia in_ ic) (e := .slice oa on_ oc) (f := .slice ca cn cc) O7.out (by omega)
      have P8 := owns6 (Z := w.heap.size) (a := .string xs) (b := .slice ta tn tc) (c := .slice fa fn fc) (d := .slice ia in_ ic) (e := .slice oa on_ oc) (f := .slice ca cn cc) P7.out (by omega)
      have C8 := owns6 (Z := w.heap.size) (a := .string xs) (b := .slice ta tn tc) (c := .slice fa fn fc) (d := .slice ia in_ ic) (e := .slice oa on_ oc) (f := .slice ca cn cc) C7.out (by omega)
      rw [← hW] at T8 F8 O8 P8 C8
      unfold set6 at hW
      rw [← hW]
      clear hW H9 J7 O7 P7 C7
      have e : ∀ j v, (#[Value.string xs, .slice ta tn tc, .slice fa fn fc, .slice ia in_ ic, .slice oa on_ oc, .slice ca cn cc] : Array Value)[j]? = some v → W.cell? ⟨w.heap.size, j, none⟩ = some v := fun j v h => (Lib.cell_of_heap (j := j) hres).trans h
      have e0 := e 0 _ rfl
      have e1 := e 1 _ rfl
      have e2 := e 2 _ rfl
      have e3 := e 3 _ rfl
      have e4 := e 4 _ rfl
      have e5 := e 5 _ rfl
      rw [← HR1.out, ← HZ.out]
      refine bodyPost_ret (v := .agg #[.string xs, .slice ta tn tc, .slice fa fn fc, .slice ia in_ ic, .slice oa on_ oc, .slice ca cn cc]) (by simp [results, Tryz.results30, go_sem, e0, e1, e2, e3, e4, e5]) rfl ⟨_, _, _, _, _, rfl, fun W' hW' => ⟨?_, ILst.of_ownsE (owns_agree T8 (by omega) hW'), ILst.of_ownsE (owns_agree F8 (by omega) hW'), ILst.of_ownsE (owns_agree O8 (by omega) hW'), ILst.of_ownsE (owns_agree P8 (by omega) hW'), ISt.of_owns (owns_agree C8 (by omega) hW')⟩, ?_, bW⟩
      · exact congrArg Value.string (Wi.of_list xs _ rfl)
      · intro a n c h
        cases h
        exact HC.out
end Go.Proofs.YtmbgcpmapaedcaaGreatDoor
