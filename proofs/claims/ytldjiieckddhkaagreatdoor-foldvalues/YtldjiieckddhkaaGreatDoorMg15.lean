/- TgW | TpA -/
import Derived.Test.YtldjiieckddhkaaGreatDoorMg14
import Derived.Deep.RegionHeld3
namespace Go.Proofs.YtldjiieckddhkaaGreatDoor
open Go.RowKit Go.Sort
def fdA (o : Option (Bs × Int × Bool)) : Value := match o with
  | some r => .tuple #[.agg #[.string ⟨r.1.toArray⟩, .int .i64 r.2.1, .bool r.2.2], .bool true]
  | none => .tuple #[.agg #[.string ⟨#[]⟩, .int .i64 0, .bool false], .bool false]
theorem fldR_len (k : Int) : (fldR k).length ≤ 6 := by
  unfold fldR
  repeat' split
  all_goals decide
set_option maxRecDepth 100000 in
set_option maxHeartbeats 3200000 in
theorem fieldOf_any (s : ByteArray) (t l i d : Int) (f : ByteArray) (w : World) (ht : -1000 ≤ t ∧ t ≤ 1000) :
    Calls Tryz.prog 161 #[.agg #[.string s, .int .i64 t, .int .i64 l, .int .i64 i, .int .i64 d], .string f] w fun e w' => e = .returned (fdA ((fldR (t - 100)).find? fun r => r.1 == f.data.toList)) ∧ Below w.heap.size w w' := by
  obtain ⟨W0, hW0⟩ : ∃ W0, W0 = (w.alloc (.cells #[.string s, .int .i64 t, .int .i64 l, .int .i64 i, .int .i64 d] 50)).alloc (.cells #[.string ⟨#[]⟩, .int .i64 0, .bool false] 185) := ⟨_, rfl⟩
  have B0 := hide (show Below w.heap.size w W0 by rw [hW0]; exact ((Below.refl w.heap.size w).alloc (Nat.le_refl _) _).alloc (by simp) _)
  have hz : W0.heap.size = w.heap.size + 2 := by rw [hW0]; simp
  have hb1 : W0.heap[w.heap.size + 1]? = some (.cells #[.string ⟨#[]⟩, .int .i64 0, .bool false] 185) := by
    rw [hW0]
    have := heap_alloc_new (w.alloc (.cells #[.string s, .int .i64 t, .int .i64 l, .int .i64 i, .int .i64 d] 50)) (.cells #[.string ⟨#[]⟩, .int .i64 0, .bool false] 185)
    rwa [World.size_alloc] at this
  have HB1 := hide hb1
  have HW0 := hide hW0
  have HZ := hide hz
  have c := fieldsOf_any s t l i d W0 ht
  clear hb1 hW0 hz ht
  have hlen := fldR_len (t - 100)
  generalize fldR (t - 100) = rows at *
  go_enter Tryz.func161, Tryz.ntmps161
  go_wp2_with fail
  rw [← HW0.out]
  refine c.mono ?_
  rintro e W1 ⟨⟨v, rfl, hf⟩, hb⟩
  have BW1 := hide (B0.out.trans (hb.mono (by have := HZ.out; omega)))
  have HK1 := hide ((hb.block _ (show w.heap.size + 1 < W0.heap.size by have := HZ.out; omega)).trans HB1.out)
  clear c hb B0 HB1 HW0
  obtain ⟨a, b, cap, rfl, hA, hI⟩ := hf
  have HA := hide hA
  have HI := hide hI
  obtain ⟨n, hn⟩ : ∃ n, n = rows.length := ⟨_, rfl⟩
  rw [← hn]
  have HN := hide hn
  have n0 : (0 : Int) ≤ (n : Int) := by omega
  have n6 : (n : Int) ≤ 6 := by rw [hn]; have := hlen; omega
  clear hn hA hI hlen
  go_wp2_with fail
  go_loopw [11] (fun j wr => ∃ k : Nat, k ≤ n ∧ j = .int .i64 (k : Int) ∧ Hid (wr.heap[w.heap.size + 1]? = some (.cells #[.string ⟨#[]⟩, .int .i64 0, .bool false] 185) ∧ Below w.heap.size w wr ∧ Below W1.heap.size W1 wr ∧ (rows.drop k).find? (fun r => r.1 == f.data.toList) = rows.find? (fun r => r.1 == f.data.toList))) (fun j _ => n - (intOf j).toNat)
  case atStart => exact ⟨0, by omega, rfl, HK1.out, BW1.out, Below.refl _ _, rfl⟩
  case round =>
    obtain ⟨k, hk, rfl, hh⟩ := hrel
    have hblk := hh.out.1
    have HB := hide hh.out.2.1
    have HC := hide hh.out.2.2.1
    have HF := hide hh.out.2.2.2
    clear hh
    have z0 : w.heap.size + 1 < wr.heap.size := (Array.getElem?_eq_some_iff.1 hblk).1
    by_cases hlt : k < n
    · have j1 : (k : Int) < (n : Int) := by omega
      have j0 : (0 : Int) ≤ (k : Int) := by omega
      obtain ⟨r, hr⟩ : ∃ r, rows[k]? = some r := ⟨_, List.getElem?_eq_getElem (by rw [← HN.out]; exact hlt)⟩
      obtain ⟨hbw, rfl⟩ := HA.out (by rw [← HN.out]; omega)
      obtain ⟨q0, q1, q2⟩ := HI.out k r hr
      have c0 := (HC.out.cell (p := ⟨b, k * 3, none⟩) hbw).trans q0
      have c1 := (HC.out.cell (p := ⟨b, k * 3 + 1, none⟩) hbw).trans q1
      have c2 := (HC.out.cell (p := ⟨b, k * 3 + 2, none⟩) hbw).trans q2
      have HD : Hid (rows.drop k = r :: rows.drop (k + 1)) := by
        show _ = _
        have hkl : k < rows.length := by rw [← HN.out]; exact hlt
        rw [List.drop_eq_getElem_cons hkl]
        congr 1
        exact Option.some.inj ((List.getElem?_eq_getElem hkl).symm.trans hr)
      obtain ⟨rs, rt, rb⟩ := r
      simp only [] at c0 c1 c2
      obtain ⟨u, hu⟩ : ∃ u : ByteArray, u = ⟨rs.toArray⟩ := ⟨_, rfl⟩
      rw [← hu] at c0
      have HU := hide hu
      clear q0 q1 q2 hr hu
      have zr := HB.out.size
      have BA := hide (And.intro (HB.out.alloc zr (.cells #[.string u, .int .i64 rt, .bool rb] 185)) (HC.out.alloc HC.out.size (.cells #[.string u, .int .i64 rt, .bool rb] 185)))
      have e0 : ∀ j, wr.frozen? ⟨w.heap.size + 1, j, none⟩ = false := fun j => Lib.frozen_of_heap hblk j
      have d : ∀ j x, (#[.string ⟨#[]⟩, .int .i64 0, .bool false] : Array Value)[j]? = some x → wr.cell? ⟨w.heap.size + 1, j, none⟩ = some x := fun j x h => by rw [Lib.cell_of_heap hblk]; exact h
      have d0 := d 0 _ rfl
      have d1 := d 1 _ rfl
      have d2 := d 2 _ rfl
      have HBL : Hid ((wr.alloc (.cells #[.string u, .int .i64 rt, .bool rb] 185)).heap[w.heap.size + 1]? = some (.cells #[.string ⟨#[]⟩, .int .i64 0, .bool false] 185)) := by
        show _ = _; rw [Lib.alloc_old wr _ _ z0]; exact hblk
      clear d hblk
      by_cases hname : u = f
      · have hnn : (u.toList == f.toList) = true := by rw [beq_text]; exact decide_eq_true hname
        have HFS : Hid (rows.find? (fun r => r.1 == f.data.toList) = some (rs, rt, rb)) := by
          show _ = _
          rw [← HF.out, HD.out, List.find?_cons, show (rs == f.data.toList) = true by rw [← hname, HU.out]; simp]
        clear hname
        go_wp2
        refine bodyPost_ret (v := .tuple #[.agg #[.string u, .int .i64 rt, .bool rb], .bool true]) (by simp [results, Tryz.results161, go_sem, *]) rfl ⟨?_, ?_⟩
        · rw [HFS.out, HU.out]; rfl
        · exact (set3 HB.out (show w.heap.size ≤ w.heap.size + 1 by omega) _ _ _).alloc (by simp; omega) _
      · have hnn : (u.toList == f.toList) = false := by rw [beq_text]; exact decide_eq_false hname
        have HFS : Hid ((rows.drop (k + 1)).find? (fun r => r.1 == f.data.toList) = rows.find? (fun r => r.1 == f.data.toList)) := by
          show _ = _
          rw [← HF.out, HD.out, List.find?_cons, show (rs == f.data.toList) = false by rw [beq_eq_false_iff_ne]; exact fun h => hname (by rw [HU.out, h])]
        clear hname d0 d1 d2 e0
        go_wp2
        go_roundw
        case rel => exact ⟨k + 1, by omega, by go_num, HBL.out, BA.out.1, BA.out.2, HFS.out⟩
        case measure => simp [intOf]; omega
    · obtain rfl : k = n := by omega
      have HFS : Hid (rows.find? (fun r => r.1 == f.data.toList) = none) := by
        show _ = _
        rw [← HF.out, List.drop_of_length_le (by rw [← HN.out]; omega)]; rfl
      have e0 : ∀ j, wr.frozen? ⟨w.heap.size + 1, j, none⟩ = false := fun j => Lib.frozen_of_heap hblk j
      have d : ∀ j x, (#[.string ⟨#[]⟩, .int .i64 0, .bool false] : Array Value)[j]? = some x → wr.cell? ⟨w.heap.size + 1, j, none⟩ = some x := fun j x h => by rw [Lib.cell_of_heap hblk]; exact h
      have d0 := d 0 _ rfl
      have d1 := d 1 _ rfl
      have d2 := d 2 _ rfl
      clear d hblk
      go_wp2
      refine bodyPost_ret (v := .tuple #[.agg #[.string ⟨#[]⟩, .int .i64 0, .bool false], .bool false]) (by simp [results, Tryz.results161, go_sem, *]) rfl ⟨?_, ?_⟩
      · rw [HFS.out]; rfl
      · exact set3 HB.out (by omega) _ _ _
theorem var_small {vs : List Vr} (hv : vOk vs) {s : Bs} {a : Bool × Bool} {v : Vr} (h : findV vs s a = .ok v) : -1000 ≤ v.ty ∧ v.ty ≤ 1000 := by
  have := var_ty (hv v (find_mem h).1)
  omega
set_option maxRecDepth 100000 in
set_option maxHeartbeats 3200000 in
theorem fieldKind_any (v : Value) (l : List Vv) (y : Pv) (w : World) (hL : VLst w v l) (hlen : l.length ≤ 4398046510976) (hv : vOk (l.map vrV)) (h4 : y.k = 4) :
    Calls Tryz.prog 141 #[v, .agg #[.int .i64 y.k, .int .i64 y.n, .int .i64 y.t, .string y.s, .string y.f]] w fun e w' => (∃ k e', e = .returned (.tuple #[.agg #[.int .i64 k.typ, .int .i64 k.lo, .int .i64 k.hi], .int .i64 e']) ∧ KOut (partK (l.map vrV) (ptV y) []) k e') ∧ Below w.heap.size w w' := by
  have HK : Hid (partK (l.map vrV) (ptV y) [] = match findV (l.map vrV) y.s.data.toList (false, true) with
    | .error e => .error e
    | .ok v => match fldV v y.f.data.toList with
      | none => .error 91
      | some r => .ok (kT r.2.1)) := by
    show _ = _
    unfold partK
    have e4 : (ptV y).kind = 4 := h4
    rw [if_neg (by omega), if_neg (by omega), if_neg (by omega), if_pos e4]; rfl
  have HV := hide hv
  clear h4 hv
  obtain ⟨W0, hW0⟩ : ∃ W0, W0 = (w.alloc (.cells #[.int .i64 y.k, .int .i64 y.n, .int .i64 y.t, .string y.s, .string y.f] 38)).alloc (.cells #[.int .i64 0, .int .i64 0, .int .i64 0] 52) := ⟨_, rfl⟩
  have B0 := show Below w.heap.size w W0 by rw [hW0]; exact ((Below.refl w.heap.size w).alloc (Nat.le_refl _) _).alloc (by simp) _
  have hz : W0.heap.size = w.heap.size + 2 := by rw [hW0]; simp
  have hb0 : W0.heap[w.heap.size]? = some (.cells #[.int .i64 y.k, .int .i64 y.n, .int .i64 y.t, .string y.s, .string y.f] 38) := by
    rw [hW0, Lib.alloc_old _ _ _ (by simp)]; exact heap_alloc_new w _
  have hb1 : W0.heap[w.heap.size + 1]? = some (.cells #[.int .i64 0, .int .i64 0, .int .i64 0] 52) := by
    rw [hW0]
    have := heap_alloc_new (w.alloc (.cells #[.int .i64 y.k, .int .i64 y.n, .int .i64 y.t, .string y.s, .string y.f] 38)) (.cells #[.int .i64 0, .int .i64 0, .int .i64 0] 52)
    rwa [World.size_alloc] at this
  have G : Hid (∀ W, Below (w.heap.size + 2) W0 W → Below w.heap.size w W ∧ W.cell? ⟨w.heap.size, 3, none⟩ = some (.string y.s) ∧ W.cell? ⟨w.heap.size, 4, none⟩ = some (.string y.f) ∧ (∀ j u, (#[.int .i64 0, .int .i64 0, .int .i64 0] : Array Value)[j]? = some u → W.cell? ⟨w.heap.size + 1, j, none⟩ = some u) ∧ (∀ j, W.frozen? ⟨w.heap.size + 1, j, none⟩ = false)) := fun W hW =>
    have q0 := (hW.block _ (show w.heap.size < _ by omega)).trans hb0
    have q1 := (hW.block _ (show w.heap.size + 1 < _ by omega)).trans hb1
    ⟨B0.trans (hW.mono (by omega)), by rw [Lib.cell_of_heap q0]; rfl, by rw [Lib.cell_of_heap q0]; rfl, fun j u h => by rw [Lib.cell_of_heap q1]; exact h, fun j => Lib.frozen_of_heap q1 j⟩
  have cf := find_any v l y.s false true W0 (hL.below B0 (Nat.le_refl _)) hlen
  obtain ⟨a, n, cp, rfl⟩ : ∃ a n cp, v = .slice a n cp := by obtain ⟨a, b, off, cap, h, -⟩ := hL; exact ⟨a, _, cap, h⟩
  have HZ := hide hz
  have HW0 := hide hW0
  clear hL hlen B0 hz hb0 hb1 hW0
  generalize partK (l.map vrV) (ptV y) [] = R at *
  go_enter Tryz.func141, Tryz.ntmps141
  go_wp2_with fail
  rw [← HW0.out]
  refine cf.mono ?_
  rintro e W1 ⟨⟨x, e', rfl, hx⟩, hb⟩
  have B1 := hide (show Below (w.heap.size + 2) W0 W1 from HZ.out ▸ hb)
  have HX := hide hx
  clear cf hb hx HW0
  by_cases he : e' = 0
  · subst he
    obtain ⟨u, hu⟩ : ∃ u, findV (l.map vrV) y.s.data.toList (false, true) = .ok u := by
      have h := HX.out
      unfold FindOut at h
      cases hf : findV (l.map vrV) y.s.data.toList (false, true) with
      | ok u => exact ⟨u, rfl⟩
      | error er => rw [hf] at h; exact absurd rfl h.2
    have hxu : vrV x = u := by have h := HX.out; unfold FindOut at h; rw [hu] at h; exact h.2
    have hty : -1000 ≤ x.ty ∧ x.ty ≤ 1000 := by have := var_small HV.out hu; rw [← hxu] at this; exact this
    have HF : Hid (R = match (fldR (x.ty - 100)).find? (fun r => r.1 == y.f.data.toList) with
      | none => .error 91
      | some r => .ok (kT r.2.1)) := by show _ = _; rw [HK.out, hu, ← hxu]; rfl
    clear hu hxu HK HX HV
    obtain ⟨W2, hW2⟩ : ∃ W2, W2 = W1.alloc (.cells #[.string x.s, .int .i64 x.ty, .int .i64 x.len, .int .i64 x.init, .int .i64 x.dir] 50) := ⟨_, rfl⟩
    have B2 := hide (show Below (w.heap.size + 2) W0 W2 by rw [hW2]; exact B1.out.alloc (HZ.out ▸ B1.out.size) _)
    have c2 := fieldOf_any x.s x.ty x.len x.init x.dir y.f W2 hty
    obtain ⟨-, p3, p4, -⟩ := G.out W1 B1.out
    have ls : w.heap.size < W1.heap.size := by have := HZ.out ▸ B1.out.size; omega
    have HW2 := hide hW2
    clear hW2 hty
    generalize (fldR (x.ty - 100)).find? (fun r => r.1 == y.f.data.toList) = FR at *
    go_wp2_with fail
    rw [← HW2.out]
    refine c2.mono ?_
    rintro e W3 ⟨rfl, hb⟩
    have B3 := hide (B2.out.trans (hb.mono (HZ.out ▸ B2.out.size)))
    clear c2 hb p3 p4 HW2
    obtain ⟨b3, -, -, z, fz⟩ := G.out W3 B3.out
    have z0 := z 0 _ rfl
    have z1 := z 1 _ rfl
    have z2 := z 2 _ rfl
    have HB3 := hide b3
    have HS3 := hide (HZ.out ▸ B3.out.size : w.heap.size + 2 ≤ W3.heap.size)
    have ne : w.heap.size + 1 < W3.heap.size := by have := HS3.out; omega
    clear z b3
    cases FR with
    | none =>
      unfold fdA
      go_wp2
      refine bodyPost_ret (v := .tuple #[.agg #[.int .i64 0, .int .i64 0, .int .i64 0], .int .i64 91]) (by simp [results, Tryz.results141, go_sem, *]) rfl ⟨⟨kT 0, 91, rfl, ?_⟩, ?_⟩
      · unfold KOut; rw [HF.out]; exact ⟨rfl, by decide⟩
      · first
          | exact (set3 HB3.out (show w.heap.size ≤ w.heap.size + 1 by omega) _ _ _).alloc (by simp; omega) _
          | exact set3 (HB3.out.alloc HB3.out.size _) (show w.heap.size ≤ w.heap.size + 1 by omega) _ _ _
    | some r =>
      obtain ⟨rs, rt, rb⟩ := r
      unfold fdA
      simp only []
      generalize (⟨rs.toArray⟩ : ByteArray) = U at *
      go_wp2
      refine bodyPost_ret (v := .tuple #[.agg #[.int .i64 rt, .int .i64 0, .int .i64 0], .int .i64 0]) (by simp [results, Tryz.results141, go_sem, *]) rfl ⟨⟨kT rt, 0, rfl, ?_⟩, ?_⟩
      · unfold KOut; rw [HF.out]; exact ⟨rfl, rfl⟩
      · first
          | exact (set3 HB3.out (show w.heap.size ≤ w.heap.size + 1 by omega) _ _ _).alloc (by simp; omega) _
          | exact set3 (HB3.out.alloc HB3.out.size _) (show w.heap.size ≤ w.heap.size + 1 by omega) _ _ _
  · have he' : (e' != 0) = true := by rw [bne_iff_ne]; exact he
    have HF : Hid (R = .error e' ∧ e' ≠ 0) := by
      have h := HX.out
      unfold FindOut at h
      cases hf : findV (l.map vrV) y.s.data.toList (false, true) with
      | ok u => rw [hf] at h; exact absurd h.1 he
      | error er => rw [hf] at h; exact ⟨by rw [HK.out, hf, h.1], he⟩
    obtain ⟨b1, -, -, z, fz⟩ := G.out W1 B1.out
    have z0 := z 0 _ rfl
    have z1 := z 1 _ rfl
    have z2 := z 2 _ rfl
    have HB1 := hide b1
    have HS1 := hide (HZ.out ▸ B1.out.size : w.heap.size + 2 ≤ W1.heap.size)
    have ne : w.heap.size + 1 < W1.heap.size := by have := HS1.out; omega
    clear z b1 he HX HK
    go_wp2
    refine bodyPost_ret (v := .tuple #[.agg #[.int .i64 0, .int .i64 0, .int .i64 0], .int .i64 e']) (by simp [results, Tryz.results141, go_sem, *]) rfl ⟨⟨kT 0, e', rfl, ?_⟩, ?_⟩
    · unfold KOut; rw [HF.out.1]; exact ⟨rfl, HF.out.2⟩
    · first
        | exact (set3 HB1.out (show w.heap.size ≤ w.heap.size + 1 by omega) _ _ _).alloc (by simp; omega) _
        | exact set3 (HB1.out.alloc HB1.out.size _) (show w.heap.size ≤ w.heap.size + 1 by omega) _ _ _
end Go.Proofs.YtldjiieckddhkaaGreatDoor
namespace Go.Proofs.YtldjiieckddhkaaGreatDoor
open Go.RowKit Go.Sort
def KAt (w : World) (b off : Nat) (l : List Kd) : Prop :=
  ∀ i x, l[i]? = some x → w.cell? ⟨b, off + i * 3, none⟩ = some (.int .i64 x.typ) ∧ w.cell? ⟨b, off + i * 3 + 1, none⟩ = some (.int .i64 x.lo) ∧ w.cell? ⟨b, off + i * 3 + 2, none⟩ = some (.int .i64 x.hi)
def KLst (w : World) (v : Value) (l : List Kd) : Prop :=
  ∃ (a : Option Addr) (b off cap : Nat), v = .slice a l.length cap ∧ (0 < l.length → b < w.heap.size ∧ a = some ⟨b, off, none⟩) ∧ KAt w b off l
theorem KLst.below {w w' : World} {v : Value} {l : List Kd} {B : Nat} (h : KLst w v l) (hb : Below B w w') (hB : w.heap.size ≤ B) : KLst w' v l := by
  obtain ⟨a, b, off, cap, rfl, hb0, hI⟩ := h
  refine ⟨a, b, off, cap, rfl, fun h => ⟨by have := hb.size; have := (hb0 h).1; omega, (hb0 h).2⟩, fun i x hx => ?_⟩
  have hlt : b < B := by have := (hb0 (by have := (List.getElem?_eq_some_iff.1 hx).1; omega)).1; omega
  obtain ⟨h1, h2, h3⟩ := hI i x hx
  exact ⟨(hb.cell (p := ⟨b, _, none⟩) hlt).trans h1, (hb.cell (p := ⟨b, _, none⟩) hlt).trans h2, (hb.cell (p := ⟨b, _, none⟩) hlt).trans h3⟩
theorem KLst.shape {w : World} {v : Value} {l : List Kd} (h : KLst w v l) : ∃ a n cp, v = .slice a n cp := by obtain ⟨a, b, off, cap, h, -⟩ := h; exact ⟨a, _, cap, h⟩
structure PkW (w W0 : World) (y : Pv) : Prop where
  size : W0.heap.size = w.heap.size + 2
  below : Below w.heap.size w W0
  part : W0.heap[w.heap.size]? = some (.cells #[.int .i64 y.k, .int .i64 y.n, .int .i64 y.t, .string y.s, .string y.f] 38)
  res : W0.heap[w.heap.size + 1]? = some (.cells #[.int .i64 0, .int .i64 0, .int .i64 0] 52)
theorem PkW.mk' (w : World) (y : Pv) : PkW w ((w.alloc (.cells #[.int .i64 y.k, .int .i64 y.n, .int .i64 y.t, .string y.s, .string y.f] 38)).alloc (.cells #[.int .i64 0, .int .i64 0, .int .i64 0] 52)) y :=
  ⟨by simp, ((Below.refl w.heap.size w).alloc (Nat.le_refl _) _).alloc (by simp) _, by rw [Lib.alloc_old _ _ _ (by simp)]; exact heap_alloc_new w _, by
    have := heap_alloc_new (w.alloc (.cells #[.int .i64 y.k, .int .i64 y.n, .int .i64 y.t, .string y.s, .string y.f] 38)) (.cells #[.int .i64 0, .int .i64 0, .int .i64 0] 52)
    rwa [World.size_alloc] at this⟩
structure PkL (w W : World) (y : Pv) : Prop where
  below : Below w.heap.size w W
  p0 : W.cell? ⟨w.heap.size, 0, none⟩ = some (.int .i64 y.k)
  p1 : W.cell? ⟨w.heap.size, 1, none⟩ = some (.int .i64 y.n)
  p2 : W.cell? ⟨w.heap.size, 2, none⟩ = some (.int .i64 y.t)
  p3 : W.cell? ⟨w.heap.size, 3, none⟩ = some (.string y.s)
  p4 : W.cell? ⟨w.heap.size, 4, none⟩ = some (.string y.f)
  z0 : W.cell? ⟨w.heap.size + 1, 0, none⟩ = some (.int .i64 0)
  z1 : W.cell? ⟨w.heap.size + 1, 1, none⟩ = some (.int .i64 0)
  z2 : W.cell? ⟨w.heap.size + 1, 2, none⟩ = some (.int .i64 0)
  fz : ∀ j, W.frozen? ⟨w.heap.size + 1, j, none⟩ = false
  lt : w.heap.size + 1 < W.heap.size
theorem PkW.later {w W0 W : World} {y : Pv} (h : PkW w W0 y) (hb : Below (w.heap.size + 2) W0 W) : PkL w W y := by
  have q0 := (hb.block _ (show w.heap.size < _ by omega)).trans h.part
  have q1 := (hb.block _ (show w.heap.size + 1 < _ by omega)).trans h.res
  refine ⟨h.below.trans (hb.mono (by omega)), ?_, ?_, ?_, ?_, ?_, ?_, ?_, ?_, fun j => Lib.frozen_of_heap q1 j, (Array.getElem?_eq_some_iff.1 q1).1⟩
  all_goals first | (rw [Lib.cell_of_heap q0]; rfl) | (rw [Lib.cell_of_heap q1]; rfl)
def PkOut (vs : List Vr) (y : Pv) (ks : List Kd) (w : World) (e : Ending) (w' : World) : Prop :=
  (∃ k e', e = .returned (.tuple #[.agg #[.int .i64 k.typ, .int .i64 k.lo, .int .i64 k.hi], .int .i64 e']) ∧ KOut (partK vs (ptV y) ks) k e') ∧ Below w.heap.size w w'
set_option maxRecDepth 100000 in
set_option maxHeartbeats 3200000 in
theorem pk_num (v kv : Value) (vs : List Vr) (ks : List Kd) (y : Pv) (w : World) (hk : y.k = 1) (hv : ∃ a n cp, v = .slice a n cp) (hkv : ∃ a n cp, kv = .slice a n cp) :
    Calls Tryz.prog 103 #[v, .agg #[.int .i64 y.k, .int .i64 y.n, .int .i64 y.t, .string y.s, .string y.f], kv] w (PkOut vs y ks w) := by
  have HK : Hid (partK vs (ptV y) ks = .ok (if y.t = 0 then ⟨0, y.n, y.n⟩ else kT y.t)) := partK_num (p := ptV y) hk ks
  unfold PkOut
  generalize partK vs (ptV y) ks = R at *
  obtain ⟨W0, hW0⟩ : ∃ W0, W0 = ((w.alloc (.cells #[.int .i64 y.k, .int .i64 y.n, .int .i64 y.t, .string y.s, .string y.f] 38)).alloc (.cells #[.int .i64 0, .int .i64 0, .int .i64 0] 52)) := ⟨_, rfl⟩
  have PW := hide (show PkW w W0 y by rw [hW0]; exact PkW.mk' w y)
  have HW0 := hide hW0
  have c := numberKind_any y.k y.n y.t y.s y.f W0
  obtain ⟨a, n, cp, rfl⟩ := hv
  obtain ⟨a', n', cp', rfl⟩ := hkv
  clear hW0
  obtain ⟨K0, hK0⟩ : ∃ K0 : Kd, K0 = if y.t = 0 then ⟨0, y.n, y.n⟩ else kT y.t := ⟨_, rfl⟩
  have HKK : Hid (.agg #[.int .i64 (if y.t = 0 then 0 else y.t), .int .i64 (if y.t = 0 then y.n else 0), .int .i64 (if y.t = 0 then y.n else 0)] = (.agg #[.int .i64 K0.typ, .int .i64 K0.lo, .int .i64 K0.hi] : Value)) := by
    show _ = _
    rw [hK0]
    by_cases h : y.t = 0
    · rw [if_pos h, if_pos h, if_pos h]
    · rw [if_neg h, if_neg h, if_neg h]; rfl
  rw [HKK.out] at c
  rw [← hK0] at HK
  clear hK0 HKK
  have hk' : (y.k == 1) = true := by rw [hk]; rfl
  clear hk
  go_enter Tryz.func103, Tryz.ntmps103
  go_wp2_with fail
  rw [← HW0.out]
  refine c.mono ?_
  rintro e W1 ⟨rfl, hb⟩
  have L := PW.out.later (by rw [PW.out.size] at hb; exact hb)
  have z0 := L.z0
  have z1 := L.z1
  have z2 := L.z2
  have fz := L.fz
  have HB := hide L.below
  clear c hb L
  go_wp2
  refine bodyPost_ret (v := .tuple #[.agg #[.int .i64 K0.typ, .int .i64 K0.lo, .int .i64 K0.hi], .int .i64 0]) (by simp [results, Tryz.results103, go_sem, *]) rfl ⟨⟨K0, 0, rfl, ?_⟩, ?_⟩
  · unfold KOut; rw [HK.out]; exact ⟨rfl, rfl⟩
  · exact set3 HB.out (by omega) _ _ _
end Go.Proofs.YtldjiieckddhkaaGreatDoor
