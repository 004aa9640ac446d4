/- code: codeText, appendCount, appendLines. | code: appendLines, itemsOf. -/
import Derived.Test.YtmbgcpmapaedcaaGreatDoorMg21
import Derived.Test.YtmbgcpmapaedcaaGreatDoorMg11
namespace Go.Proofs.YtmbgcpmapaedcaaGreatDoor
open Go.RowKit
open Wi (App encB It itC itsC)
set_option maxRecDepth 100000 in
set_option maxHeartbeats 1600000 in
theorem codeText_any (cv : Value) (l : List Ins) (w : World) (hL : ISt w cv l) (hl : l.length ≤ 4096) (h1 : 1 ≤ l.length) :
    Calls Tryz.prog 54 #[cv] w fun e w' => e = .returned (.string ⟨(cdB l).toArray⟩) ∧ Below w.heap.size w w' := by
  obtain ⟨ca, cb, coff, ccap, rfl, hcA, hcI⟩ := hL
  have HCA := hide hcA
  have HCI := hide hcI
  obtain ⟨n, hN⟩ : ∃ n, n = l.length := ⟨_, rfl⟩
  rw [← hN] at hl h1 ⊢
  have HN := hide hN
  have n0 : (0 : Int) ≤ (n : Int) := by omega
  have n5 : (n : Int) ≤ 4096 := by omega
  clear hcA hcI hN
  obtain ⟨i0, hi, hz0, hz1, hz2⟩ := info_parts Wi.in5
  have hmk : ∀ u : World, (Instr.makeSlice 78 (.int .i64 0) (.int .i64 ((n : Int) * 11))).run Tryz.prog u =
      .ok (.slice (some ⟨u.heap.size, 0, none⟩) 0 (n * 11)) (u.alloc (.cells (madeCells #[.int .u8 0] (n * 11)) 5)) := fun u => by
    have h := run_make (P := Tryz.prog) u 78 5 i0 (.int .u8 0) Tryz.underlying78 hi hz0 .i64 .i64 0 ((n * 11 : Nat) : Int) (by omega) (by omega) (by rw [hz2]; omega) (by omega)
    simp only [Int.toNat_natCast, Int.toNat_zero] at h
    rw [Int.natCast_mul] at h
    simpa [hz1, Value.cells] using h
  have hMs : (madeCells #[.int .u8 0] (n * 11)).size = n * 11 * 1 := by simp [madeCells]
  generalize madeCells #[Value.int .u8 0] (n * 11) = M at *
  have HST : Hid ((w.alloc (.cells M 5)).ownsRow w.heap.size 5 1 (.slice (some ⟨w.heap.size, 0, none⟩) 0 (n * 11)) 0 []) :=
    World.ownsRow_made w _ _ (Nat.le_refl _) (by unfold maxLen; omega) hMs
  have HB0 := hide ((Below.refl w.heap.size w).alloc (Nat.le_refl _) (.cells M 5))
  have hwm : IntKind.i64.wrap ((n : Int) * 11) = (n : Int) * 11 := by rw [IntKind.wrap_i64]; omega
  clear hMs
  go_enter Tryz.func54, Tryz.ntmps54
  go_wp2_with fail
  generalize (w.alloc (.cells M 5)) = w0 at *
  go_loopw [3, 5, 12] (fun bv _ i wx => ∃ (j : Nat) (b' : Value), j ≤ n ∧ i = .int .i64 (j : Int) ∧ b' = bv ∧ Hid (wx.ownsRow w.heap.size 5 1 b' (11 * j) ((cdB (l.take j)).map encB) ∧ Below w.heap.size w wx)) (fun _ _ i _ => n - (intOf i).toNat)
  case atStart => exact ⟨0, _, by omega, rfl, rfl, HST.out, HB0.out⟩
  case round =>
    obtain ⟨j, bv, hj, rfl, rfl, hh⟩ := hrel
    have OO := hide hh.out.1
    have BB := hide hh.out.2
    have j0 : (0 : Int) ≤ (j : Int) := by omega
    clear hh
    by_cases hlt : j < n
    · have j1 : (j : Int) < (n : Int) := by omega
      obtain ⟨i, hi'⟩ : ∃ i, l[j]? = some i := ⟨_, List.getElem?_eq_getElem (by rw [← HN.out]; exact hlt)⟩
      obtain ⟨hcb, rfl⟩ := HCA.out (by rw [← HN.out]; omega)
      obtain ⟨e0, e1, e2, e3⟩ := HCI.out j i hi'
      have d0 := (BB.out.cell (p := ⟨cb, coff + j * 4, none⟩) hcb).trans e0
      have d1 := (BB.out.cell (p := ⟨cb, coff + j * 4 + 1, none⟩) hcb).trans e1
      have d2 := (BB.out.cell (p := ⟨cb, coff + j * 4 + 2, none⟩) hcb).trans e2
      have d3 := (BB.out.cell (p := ⟨cb, coff + j * 4 + 3, none⟩) hcb).trans e3
      have HT := hide (cdB_take hi')
      have zr := BB.out.size
      have m1 : Hid (∀ A, Calls Tryz.prog 82 #[bv, .agg #[.int .i64 i.op, .int .i64 i.a, .int .i64 i.b, .int .i64 i.n]] (wr.alloc A) fun e w' => ∃ v', e = .returned v' ∧ App w.heap.size (wr.alloc A) bv w' v' (11 * j + 11) ((cdB (l.take j)).map encB ++ (insB i).map encB)) := fun A => instr_any w.heap.size bv (11 * j) i _ (wr.alloc A) (OO.out.alloc A) (by simp; omega) (by omega)
      rw [← List.map_append, ← HT.out] at m1
      have hbo : Hid (∀ r, bv.ownBlock = some r → w.heap.size ≤ r) := fun r hr => (OO.out.lt r hr).1
      clear e0 e1 e2 e3 hi' hcb
      generalize i.op = p0 at *
      generalize i.a = p1 at *
      generalize i.b = p2 at *
      generalize i.n = p3 at *
      go_wp2_with fail
      refine (m1.out _).mono ?_
      rintro e w3 ⟨v3, rfl, happ⟩
      have O3 := hide happ.own
      have B3 := hide (happ.below (BB.out.alloc zr _) (by simp; omega) hbo.out)
      clear happ m1 d0 d1 d2 d3 OO BB
      go_wp2
      go_roundw
      case rel => exact ⟨j + 1, _, by omega, by go_num, rfl, by rw [show 11 * (j + 1) = 11 * j + 11 from by omega]; exact O3.out, B3.out⟩
      case measure => simp [intOf]; omega
    · obtain rfl : j = n := by omega
      have htk : l.take j = l := List.take_of_length_le (by rw [← HN.out]; exact Nat.le_refl _)
      have ho := OO.out
      rw [htk] at ho
      obtain ⟨g8, cap8, rfl, _, _⟩ := ho.form (by omega)
      have hconv := run_convert_bytes_back (P := Tryz.prog) wr 78 9 5 ⟨g8, 0, none⟩ cap8 (cdB l) Tryz.underlying78 Tryz.underlying5 Tryz.underlying9 (fun i hi => by
        rw [cdB_length, ← HN.out] at hi
        rw [Wi.addr_add, ho.cellAt i (by omega), List.getElem?_map, List.getElem?_eq_getElem (by rw [cdB_length, ← HN.out]; exact hi)]; rfl)
      rw [cdB_length, ← HN.out] at hconv
      obtain ⟨R, hR⟩ : ∃ R : ByteArray, Hid (R = ⟨(cdB l).toArray⟩) := ⟨_, rfl⟩
      rw [← hR.out] at hconv
      clear ho htk OO
      generalize 11 * j = jj at *
      go_wp2
      go_ret
      exact ⟨by rw [← hR.out]; rfl, BB.out⟩
/-- a number as an item -/
def nIt (n : Int) : It := ⟨false, n, ⟨#[]⟩⟩
theorem inIt : (Tryz.prog.info? 61).map (fun i => (i.zero, i.size, i.bytes)) = some (some (.agg #[.bool false, .int .i64 0, .string ⟨#[]⟩]), 3, 32) := by kernel_rfl
theorem its_one (l : List It) (x : It) : itsC (l ++ [x]) = itsC l ++ [.bool x.t, .int .i64 x.n, .string x.s] := by
  rw [Wi.itsC_append]; rfl
set_option maxRecDepth 100000 in
set_option maxHeartbeats 1600000 in
theorem count_any (base : Nat) (v : Value) (k : Nat) (l : List It) (n : Int) (w : World) (hown : w.ownsRow base 61 3 v k (itsC l)) (hbase : base ≤ w.heap.size) (hk : k ≤ 1000000) :
    Calls Tryz.prog 52 #[v, .int .i64 n] w fun e w' => ∃ v', e = .returned v' ∧ w'.ownsRow base 61 3 v' (k + 1) (itsC (l ++ [nIt n])) ∧ Below base w w' := by
  obtain ⟨i0, hi, hz0, hz1, hz2⟩ := info_parts inIt
  have HO := hide hown
  have HI := hide (its_one l (nIt n))
  have hob : ∀ r, v.ownBlock = some r → base ≤ r := fun r hr => (hown.lt r hr).1
  clear hown
  go_enter Tryz.func52, Tryz.ntmps52
  go_wp2_with (at_builtin; go_must (refine wpList_append_lies _ (by rfl) _ _ _ (by rfl) base 61 i0 _ 3 32 Tryz.underlying45 hi hz0 hz1 hz2 rfl (by omega) v k _ (by rfl) (HO.out.alloc _) ⟨w.heap.size, 0, none⟩ 1 1 [.bool false, .int .i64 n, .string ⟨#[]⟩] (by rfl) (by rfl) (World.news_of_block (cs := #[.bool false, .int .i64 n, .string ⟨#[]⟩]) (t := 61) (fr := (0, 0)) (heap_alloc_new w _)) (by simp [Value.oneCell']) (by omega) (by unfold maxLen; omega) (by omega) (by simp; omega) (w.heap.size + 1) (by simp) ?_; intro gg cap' w1 hown1 hgrow hat hlt3))
  go_ret
  refine ⟨_, rfl, ?_, ((Below.refl base w).alloc hbase _).grown hgrow (by simp; omega) hob⟩
  rw [HI.out]; exact hown1
end Go.Proofs.YtmbgcpmapaedcaaGreatDoor
namespace Go.Proofs.YtmbgcpmapaedcaaGreatDoor
open Go.RowKit
open Wi (App encB It itC itsC)
set_option maxRecDepth 100000 in
set_option maxHeartbeats 1600000 in
theorem lines2_any (base : Nat) (v : Value) (k : Nat) (l : List It) (cv : Value) (c : List Int) (w0 w : World) (hL : ILst w0 cv c) (hb : Below w0.heap.size w0 w) (hB : w0.heap.size ≤ base) (hown : w.ownsRow base 61 3 v k (itsC l)) (hbase : base ≤ w.heap.size) (hk : k ≤ 10000) (hc : c.length ≤ 1024) :
    Calls Tryz.prog 53 #[v, cv] w fun e w' => ∃ v', e = .returned v' ∧ w'.ownsRow base 61 3 v' (k + 1 + c.length) (itsC ((l ++ [nIt (c.length : Int)]) ++ c.map nIt)) ∧ Below base w w' := by
  obtain ⟨i0, hi, hz0, hz1, hz2⟩ := info_parts inIt
  obtain ⟨aa, ab, aoff, acap, rfl, hA, hI⟩ := hL
  have HA := hide hA
  have HI := hide hI
  have HW := hide hb
  obtain ⟨n, hN⟩ : ∃ n, n = c.length := ⟨_, rfl⟩
  rw [← hN] at hc ⊢
  have HN := hide hN
  have m1 := hide (count_any base v k l (n : Int) w hown hbase (by omega))
  have n0 : (0 : Int) ≤ (n : Int) := by omega
  have n5 : (n : Int) ≤ 1024 := by omega
  clear hA hI hb hN hown
  go_enter Tryz.func53, Tryz.ntmps53
  go_wp2_with fail
  refine m1.out.mono ?_
  rintro e w1 ⟨v1, rfl, ho1, hb1⟩
  have O1 : Hid (w1.ownsRow base 61 3 v1 (k + 1 + 0) (itsC ((l ++ [nIt (n : Int)]) ++ (c.take 0).map nIt))) := by
    show w1.ownsRow base 61 3 v1 (k + 1) (itsC ((l ++ [nIt (n : Int)]) ++ []))
    rw [List.append_nil]; exact ho1
  have B1 := hide hb1
  clear ho1 hb1 m1
  go_wp2_with fail
  go_loopw [0, 6, 13] (fun bv _ i wx => ∃ (j : Nat) (b' : Value), j ≤ n ∧ i = .int .i64 (j : Int) ∧ b' = bv ∧ Hid (wx.ownsRow base 61 3 b' (k + 1 + j) (itsC ((l ++ [nIt (n : Int)]) ++ (c.take j).map nIt)) ∧ Below base w wx)) (fun _ _ i _ => n - (intOf i).toNat)
  case atStart => exact ⟨0, _, by omega, rfl, rfl, O1.out, B1.out⟩
  case round =>
    clear O1 B1
    obtain ⟨j, bv, hj, rfl, rfl, hh⟩ := hrel
    have OO := hide hh.out.1
    have BB := hide hh.out.2
    have j0 : (0 : Int) ≤ (j : Int) := by omega
    clear hh
    by_cases hlt : j < n
    · have j1 : (j : Int) < (n : Int) := by omega
      obtain ⟨x, hx⟩ : ∃ x, c[j]? = some x := ⟨_, List.getElem?_eq_getElem (by rw [← HN.out]; exact hlt)⟩
      obtain ⟨hab, rfl⟩ := HA.out (by rw [← HN.out]; omega)
      have c1 := (BB.out.cell (p := ⟨ab, aoff + j, none⟩) (by show ab < base; omega)).trans ((HW.out.cell (p := ⟨ab, aoff + j, none⟩) hab).trans (HI.out j x hx))
      have HT : Hid (itsC ((l ++ [nIt (n : Int)]) ++ (c.take (j + 1)).map nIt) = itsC ((l ++ [nIt (n : Int)]) ++ (c.take j).map nIt) ++ [.bool false, .int .i64 x, .string ⟨#[]⟩]) := by
        show _ = _
        rw [List.take_add_one, hx]
        show itsC (_ ++ (c.take j ++ [x]).map nIt) = _
        rw [List.map_append, ← List.append_assoc]
        exact its_one _ (nIt x)
      have zr := BB.out.size
      have hob : ∀ r, bv.ownBlock = some r → base ≤ r := fun r hr => (OO.out.lt r hr).1
      clear hx
      go_wp2_with (at_builtin; go_must (refine wpList_append_lies _ (by rfl) _ _ _ (by rfl) base 61 i0 _ 3 32 Tryz.underlying45 hi hz0 hz1 hz2 rfl (by omega) bv (k + 1 + j) _ (by rfl) (OO.out.alloc _) ⟨wr.heap.size, 0, none⟩ 1 1 [.bool false, .int .i64 x, .string ⟨#[]⟩] (by rfl) (by rfl) (World.news_of_block (cs := #[.bool false, .int .i64 x, .string ⟨#[]⟩]) (t := 61) (fr := (0, 0)) (heap_alloc_new wr _)) (by simp [Value.oneCell']) (by omega) (by unfold maxLen; omega) (by omega) (by simp; omega) (wr.heap.size + 1) (by simp) ?_; intro gg cap' w3 hown3 hgrow hat hlt3; have B3 := hide ((BB.out.alloc (by omega) _).grown hgrow (by simp; omega) hob)))
      go_roundw
      case rel => exact ⟨j + 1, _, by omega, by go_num, rfl, by rw [HT.out]; exact hown3, B3.out⟩
      case measure => simp [intOf]; omega
    · obtain rfl : j = n := by omega
      have ho := OO.out
      rw [List.take_of_length_le (by rw [← HN.out]; exact Nat.le_refl _)] at ho
      have O9 := hide ho
      clear ho OO
      go_wp2
      go_ret
      exact ⟨_, rfl, O9.out, BB.out⟩
/-- the items of an image -/
def tIt (l : List UInt8) : It := ⟨true, 0, ⟨l.toArray⟩⟩
def cellIt (ty fi : List Int) : List It := (List.zip ty fi).flatMap fun p => [nIt p.1, nIt p.2]
def itP (x : Img) : List It := (((([tIt x.name, nIt (x.ty.length : Int)] ++ cellIt x.ty x.fi) ++ [nIt (x.ins.length : Int)]) ++ x.ins.map nIt ++ [nIt (x.outs.length : Int)]) ++ x.outs.map nIt) ++ [tIt (cdB x.cd)]
theorem cell_next {ty fi : List Int} {j : Nat} {a b : Int} (ha : ty[j]? = some a) (hb : fi[j]? = some b) : cellIt (ty.take (j + 1)) (fi.take (j + 1)) = cellIt (ty.take j) (fi.take j) ++ [nIt a, nIt b] := by
  have h1 : j < ty.length := (List.getElem?_eq_some_iff.1 ha).1
  have h2 : j < fi.length := (List.getElem?_eq_some_iff.1 hb).1
  unfold cellIt
  rw [List.take_add_one, List.take_add_one, ha, hb, List.zip_append (by rw [List.length_take, List.length_take]; omega), List.flatMap_append]
  rfl
end Go.Proofs.YtmbgcpmapaedcaaGreatDoor
