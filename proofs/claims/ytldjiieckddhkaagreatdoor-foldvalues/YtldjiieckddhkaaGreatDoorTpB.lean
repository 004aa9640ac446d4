import Derived.Test.YtldjiieckddhkaaGreatDoorMg15
namespace Go.Proofs.YtldjiieckddhkaaGreatDoor
open Go.RowKit Go.Sort
set_option maxRecDepth 100000 in
set_option maxHeartbeats 3200000 in
theorem pk_var (v kv : Value) (l : List Vv) (ks : List Kd) (y : Pv) (w : World) (hL : VLst w v l) (hlen : l.length ≤ 4398046510976) (hk : y.k = 2) (hkv : ∃ a n cp, kv = .slice a n cp) :
    Calls Tryz.prog 103 #[v, .agg #[.int .i64 y.k, .int .i64 y.n, .int .i64 y.t, .string y.s, .string y.f], kv] w (PkOut (l.map vrV) y ks w) := by
  have HK : Hid (partK (l.map vrV) (ptV y) ks = match findV (l.map vrV) y.s.data.toList (false, false) with
    | .error e => .error e
    | .ok v => .ok (kT v.ty)) := by
    show _ = _
    unfold partK
    have e2 : (ptV y).kind = 2 := hk
    rw [if_neg (by omega), if_pos e2]; rfl
  unfold PkOut
  generalize partK (l.map vrV) (ptV y) ks = R at *
  obtain ⟨W0, hW0⟩ : ∃ W0, W0 = ((w.alloc (.cells #[.int .i64 y.k, .int .i64 y.n, .int .i64 y.t, .string y.s, .string y.f] 38)).alloc (.cells #[.int .i64 0, .int .i64 0, .int .i64 0] 52)) := ⟨_, rfl⟩
  have PW := hide (show PkW w W0 y by rw [hW0]; exact PkW.mk' w y)
  have HW0 := hide hW0
  have c := find_any v l y.s false false W0 (hL.below PW.out.below (Nat.le_refl _)) hlen
  obtain ⟨a, n, cp, rfl⟩ : ∃ a n cp, v = .slice a n cp := by obtain ⟨a, b, off, cap, h, -⟩ := hL; exact ⟨a, _, cap, h⟩
  obtain ⟨a', n', cp', rfl⟩ := hkv
  clear hW0 hL hlen
  have hk1 : (y.k == 1) = false := by rw [hk]; rfl
  have hk2 : (y.k == 2) = true := by rw [hk]; rfl
  clear hk
  go_enter Tryz.func103, Tryz.ntmps103
  go_wp2_with fail
  rw [← HW0.out]
  refine c.mono ?_
  rintro e W1 ⟨⟨x, e', rfl, hx⟩, hb⟩
  have L := PW.out.later (by rw [PW.out.size] at hb; exact hb)
  have z0 := L.z0
  have z1 := L.z1
  have z2 := L.z2
  have fz := L.fz
  have lt := L.lt
  have HB := hide L.below
  have HF : Hid (KOut R (kT x.ty) e') := by
    show KOut R (kT x.ty) e'
    rw [HK.out]
    unfold FindOut at hx
    unfold KOut
    cases hf : findV (l.map vrV) y.s.data.toList (false, false) with
    | ok u => rw [hf] at hx; exact ⟨hx.1, by rw [← hx.2]; rfl⟩
    | error er => rw [hf] at hx; exact hx
  clear c hb L hx
  go_wp2
  refine bodyPost_ret (v := .tuple #[.agg #[.int .i64 x.ty, .int .i64 0, .int .i64 0], .int .i64 e']) (by simp [results, Tryz.results103, go_sem, *]) rfl ⟨⟨kT x.ty, e', rfl, HF.out⟩, ?_⟩
  first
    | exact (set3 HB.out (show w.heap.size ≤ w.heap.size + 1 by omega) _ _ _).alloc (by simp; omega) _
    | exact set3 (HB.out.alloc HB.out.size _) (show w.heap.size ≤ w.heap.size + 1 by omega) _ _ _
set_option maxRecDepth 100000 in
set_option maxHeartbeats 3200000 in
theorem pk_field (v kv : Value) (l : List Vv) (ks : List Kd) (y : Pv) (w : World) (hL : VLst w v l) (hlen : l.length ≤ 4398046510976) (hv : vOk (l.map vrV)) (hk : y.k = 4) (hkv : ∃ a n cp, kv = .slice a n cp) :
    Calls Tryz.prog 103 #[v, .agg #[.int .i64 y.k, .int .i64 y.n, .int .i64 y.t, .string y.s, .string y.f], kv] w (PkOut (l.map vrV) y ks w) := by
  have HK : Hid (partK (l.map vrV) (ptV y) [] = partK (l.map vrV) (ptV y) ks) := by
    show _ = _
    unfold partK
    have e4 : (ptV y).kind = 4 := hk
    rw [if_neg (by omega), if_neg (by omega), if_neg (by omega), if_pos e4, if_neg (by omega), if_neg (by omega), if_neg (by omega), if_pos e4]
  unfold PkOut
  rw [← HK.out]
  clear HK
  obtain ⟨W0, hW0⟩ : ∃ W0, W0 = ((w.alloc (.cells #[.int .i64 y.k, .int .i64 y.n, .int .i64 y.t, .string y.s, .string y.f] 38)).alloc (.cells #[.int .i64 0, .int .i64 0, .int .i64 0] 52)) := ⟨_, rfl⟩
  have PW := hide (show PkW w W0 y by rw [hW0]; exact PkW.mk' w y)
  have HW0 := hide hW0
  have c := fieldKind_any v l y W0 (hL.below PW.out.below (Nat.le_refl _)) hlen hv hk
  generalize partK (l.map vrV) (ptV y) [] = R at *
  obtain ⟨a, n, cp, rfl⟩ : ∃ a n cp, v = .slice a n cp := by obtain ⟨a, b, off, cap, h, -⟩ := hL; exact ⟨a, _, cap, h⟩
  obtain ⟨a', n', cp', rfl⟩ := hkv
  clear hW0 hL hlen hv
  have hk1 : (y.k == 1) = false := by rw [hk]; rfl
  have hk2 : (y.k == 2) = false := by rw [hk]; rfl
  have hk3 : (y.k == 3) = false := by rw [hk]; rfl
  have hk4 : (y.k == 4) = true := by rw [hk]; rfl
  clear hk
  go_enter Tryz.func103, Tryz.ntmps103
  go_wp2_with fail
  rw [← HW0.out]
  refine c.mono ?_
  rintro e W1 ⟨⟨x, e', rfl, hx⟩, hb⟩
  have L := PW.out.later (by rw [PW.out.size] at hb; exact hb)
  have z0 := L.z0
  have z1 := L.z1
  have z2 := L.z2
  have fz := L.fz
  have lt := L.lt
  have HB := hide L.below
  have HF := hide hx
  clear c hb L hx
  go_wp2
  refine bodyPost_ret (v := .tuple #[.agg #[.int .i64 x.typ, .int .i64 x.lo, .int .i64 x.hi], .int .i64 e']) (by simp [results, Tryz.results103, go_sem, *]) rfl ⟨⟨x, e', rfl, HF.out⟩, ?_⟩
  exact set3 HB.out (show w.heap.size ≤ w.heap.size + 1 by omega) _ _ _
set_option maxRecDepth 100000 in
set_option maxHeartbeats 3200000 in
theorem pk_idx (v kv : Value) (l : List Vv) (k0 : Kd) (y : Pv) (w : World) (hL : VLst w v l) (hlen : l.length ≤ 4398046510976) (hg : Glo w) (hk : y.k = 3) (hkv : KLst w kv [k0]) :
    Calls Tryz.prog 103 #[v, .agg #[.int .i64 y.k, .int .i64 y.n, .int .i64 y.t, .string y.s, .string y.f], kv] w (PkOut (l.map vrV) y [k0] w) := by
  have HK : Hid (partK (l.map vrV) (ptV y) [k0] = match findV (l.map vrV) y.s.data.toList (true, false) with
    | .error e => .error e
    | .ok v => if kAmong k0 [2] ≠ 0 then .error (kAmong k0 [2]) else .ok (kT v.ty)) := by
    show _ = _
    unfold partK
    have e3 : (ptV y).kind = 3 := hk
    rw [if_neg (by omega), if_neg (by omega), if_pos e3]; rfl
  unfold PkOut
  generalize partK (l.map vrV) (ptV y) [k0] = R at *
  obtain ⟨W0, hW0⟩ : ∃ W0, W0 = ((w.alloc (.cells #[.int .i64 y.k, .int .i64 y.n, .int .i64 y.t, .string y.s, .string y.f] 38)).alloc (.cells #[.int .i64 0, .int .i64 0, .int .i64 0] 52)) := ⟨_, rfl⟩
  have PW := hide (show PkW w W0 y by rw [hW0]; exact PkW.mk' w y)
  have HW0 := hide hW0
  have c := find_any v l y.s true false W0 (hL.below PW.out.below (Nat.le_refl _)) hlen
  obtain ⟨a, n, cp, rfl⟩ : ∃ a n cp, v = .slice a n cp := by obtain ⟨a, b, off, cap, h, -⟩ := hL; exact ⟨a, _, cap, h⟩
  obtain ⟨a', kb, ko, cp', rfl, hA, hI⟩ := hkv
  obtain ⟨hkb, rfl⟩ := hA (by simp)
  obtain ⟨k0t, k0l, k0h⟩ := k0
  obtain ⟨i0, i1, i2⟩ := hI 0 _ rfl
  simp only [Nat.zero_mul, Nat.add_zero] at i0 i1 i2
  have KC : Hid (∀ W, Below w.heap.size w W → W.cell? ⟨kb, ko, none⟩ = some (.int .i64 k0t) ∧ W.cell? ⟨kb, ko + 1, none⟩ = some (.int .i64 k0l) ∧ W.cell? ⟨kb, ko + 2, none⟩ = some (.int .i64 k0h)) := fun W hW =>
    ⟨(hW.cell (p := ⟨kb, ko, none⟩) hkb).trans i0, (hW.cell (p := ⟨kb, ko + 1, none⟩) hkb).trans i1, (hW.cell (p := ⟨kb, ko + 2, none⟩) hkb).trans i2⟩
  have HG := hide hg
  show Calls Tryz.prog 103 #[_, _, .slice (some ⟨kb, ko, none⟩) 1 cp'] w _
  clear hW0 hL hlen hI hg i0 i1 i2 hA
  have hk1 : (y.k == 1) = false := by rw [hk]; rfl
  have hk2 : (y.k == 2) = false := by rw [hk]; rfl
  have hk3 : (y.k == 3) = true := by rw [hk]; rfl
  clear hk
  go_enter Tryz.func103, Tryz.ntmps103
  go_wp2_with fail
  rw [← HW0.out]
  refine c.mono ?_
  rintro e W1 ⟨⟨x, e', rfl, hx⟩, hb⟩
  have BB := hide (show Below (w.heap.size + 2) W0 W1 by rw [PW.out.size] at hb; exact hb)
  have HX := hide hx
  clear c hb hx HW0
  obtain ⟨W2, hW2⟩ : ∃ W2, W2 = W1.alloc (.cells #[.string x.s, .int .i64 x.ty, .int .i64 x.len, .int .i64 x.init, .int .i64 x.dir] 50) := ⟨_, rfl⟩
  have B2 := hide (show Below (w.heap.size + 2) W0 W2 by rw [hW2]; exact BB.out.alloc (PW.out.size ▸ BB.out.size) _)
  have HX1 : Hid (W2.heap[W1.heap.size]? = some (.cells #[.string x.s, .int .i64 x.ty, .int .i64 x.len, .int .i64 x.init, .int .i64 x.dir] 50)) := by show _ = _; rw [hW2]; exact heap_alloc_new W1 _
  have HW2 := hide hW2
  clear hW2
  by_cases he : e' = 0
  · subst he
    obtain ⟨u, hu⟩ : ∃ u, findV (l.map vrV) y.s.data.toList (true, false) = .ok u := by
      have h := HX.out
      unfold FindOut at h
      cases hf : findV (l.map vrV) y.s.data.toList (true, false) with
      | ok u => exact ⟨u, rfl⟩
      | error er => rw [hf] at h; exact absurd rfl h.2
    have hxu : vrV x = u := by have h := HX.out; unfold FindOut at h; rw [hu] at h; exact h.2
    have HF : Hid (KOut R (kT x.ty) (kAmong ⟨k0t, k0l, k0h⟩ [2])) := by
      show KOut R (kT x.ty) (kAmong ⟨k0t, k0l, k0h⟩ [2])
      have hR : R = if kAmong ⟨k0t, k0l, k0h⟩ [2] ≠ 0 then .error (kAmong ⟨k0t, k0l, k0h⟩ [2]) else .ok (kT u.ty) := by rw [HK.out, hu]
      rw [hR]
      unfold KOut
      by_cases ha : kAmong ⟨k0t, k0l, k0h⟩ [2] = 0
      · rw [if_neg (fun h => h ha)]; exact ⟨ha, by rw [← hxu]; rfl⟩
      · rw [if_pos ha]; exact ⟨rfl, ha⟩
    clear hu hxu HK HX
    obtain ⟨W3, hW3⟩ : ∃ W3, W3 = W2.alloc (.cells #[.int .i64 2] 3) := ⟨_, rfl⟩
    have B3 := hide (show Below (w.heap.size + 2) W0 W3 by rw [hW3]; exact B2.out.alloc (PW.out.size ▸ B2.out.size) _)
    have L3 := PW.out.later B3.out
    have c2 : Calls Tryz.prog 140 #[.agg #[.int .i64 k0t, .int .i64 k0l, .int .i64 k0h], .slice (some ⟨W1.heap.size + 1, 0, none⟩) 1 1] W3 fun e w' => e = .returned (.int .i64 (kAmong ⟨k0t, k0l, k0h⟩ [2])) ∧ Below W3.heap.size W3 w' := by
      have h := among_any k0t k0l k0h [2] W2.heap.size 1 W3 (HG.out.below L3.below HG.out.lt) (by rw [hW3]; simp) (fun j t h => by
        rw [hW3, Lib.cell_of_heap (heap_alloc_new W2 _)]
        match j, h with
        | 0, h => obtain rfl := Option.some.inj h; rfl) (by simp)
      rw [show W2.heap.size = W1.heap.size + 1 by rw [HW2.out, World.size_alloc]] at h
      exact h
    have X3 := hide (show W3.heap[W1.heap.size]? = some (.cells #[.string x.s, .int .i64 x.ty, .int .i64 x.len, .int .i64 x.init, .int .i64 x.dir] 50) by rw [hW3, Lib.alloc_old _ _ _ (Array.getElem?_eq_some_iff.1 HX1.out).1]; exact HX1.out)
    have L2 := PW.out.later BB.out
    obtain ⟨q0, q1, q2⟩ := KC.out W1 L2.below
    have lk : kb < W1.heap.size := Nat.lt_of_lt_of_le hkb L2.below.size
    have HW3 := hide hW3
    clear hW3 L2 L3
    generalize kAmong ⟨k0t, k0l, k0h⟩ [2] = AM at *
    go_wp2_with fail
    rw [← HW2.out, ← HW3.out]
    refine c2.mono ?_
    rintro e W4 ⟨rfl, hb⟩
    have B4 := B3.out.trans (hb.mono (PW.out.size ▸ B3.out.size))
    have L := PW.out.later B4
    have z0 := L.z0
    have z1 := L.z1
    have z2 := L.z2
    have fz := L.fz
    have lt := L.lt
    have HB := hide L.below
    have x1 : W4.cell? ⟨W1.heap.size, 1, none⟩ = some (.int .i64 x.ty) := by
      have h := (hb.block _ (Array.getElem?_eq_some_iff.1 X3.out).1).trans X3.out
      rw [Lib.cell_of_heap h]; rfl
    clear c2 hb L B4 q0 q1 q2
    go_wp2
    refine bodyPost_ret (v := .tuple #[.agg #[.int .i64 x.ty, .int .i64 0, .int .i64 0], .int .i64 AM]) (by simp [results, Tryz.results103, go_sem, *]) rfl ⟨⟨kT x.ty, AM, rfl, HF.out⟩, ?_⟩
    exact set3 HB.out (show w.heap.size ≤ w.heap.size + 1 by omega) _ _ _
  · have he' : (e' == 0) = false := by rw [beq_eq_false_iff_ne]; exact he
    have HF : Hid (KOut R (kT x.ty) e') := by
      show KOut R (kT x.ty) e'
      have h := HX.out
      unfold FindOut at h
      rw [HK.out]
      cases hf : findV (l.map vrV) y.s.data.toList (true, false) with
      | ok u => rw [hf] at h; exact absurd h.1 he
      | error er => rw [hf] at h; exact h
    have L := PW.out.later BB.out
    have z0 := L.z0
    have z1 := L.z1
    have z2 := L.z2
    have fz := L.fz
    have lt := L.lt
    have HB := hide L.below
    clear L he HX1 HW2
    go_wp2
    refine bodyPost_ret (v := .tuple #[.agg #[.int .i64 x.ty, .int .i64 0, .int .i64 0], .int .i64 e']) (by simp [results, Tryz.results103, go_sem, *]) rfl ⟨⟨kT x.ty, e', rfl, HF.out⟩, ?_⟩
    first
      | exact (set3 HB.out (show w.heap.size ≤ w.heap.size + 1 by omega) _ _ _).alloc (by simp; omega) _
      | exact set3 (HB.out.alloc HB.out.size _) (show w.heap.size ≤ w.heap.size + 1 by omega) _ _ _
end Go.Proofs.YtldjiieckddhkaaGreatDoor
