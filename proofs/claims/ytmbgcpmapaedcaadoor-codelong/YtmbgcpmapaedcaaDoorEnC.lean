/- code: appendLines, itemsOf. -/
import Derived.Test.YtmbgcpmapaedcaaDoorEnB
import Derived.Test.YtmbgcpmapaedcaaDoorCkH
namespace Go.Proofs.YtmbgcpmapaedcaaDoor
open Go.RowKit
open Wi (App encB It itC itsC)
set_option maxRecDepth 100000 in
set_option maxHeartbeats 1600000 in
theorem lines2_any (base : Nat) (v : Value) (k : Nat) (l : List It) (cv : Value) (c : List Int) (w0 w : World) (hL : ILst w0 cv c) (hb : Below w0.heap.size w0 w) (hB : w0.heap.size ≤ base) (hown : w.ownsRow base 58 3 v k (itsC l)) (hbase : base ≤ w.heap.size) (hk : k ≤ 10000) (hc : c.length ≤ 1024) :
    Calls Tryd.prog 41 #[v, cv] w fun e w' => ∃ v', e = .returned v' ∧ w'.ownsRow base 58 3 v' (k + 1 + c.length) (itsC ((l ++ [nIt (c.length : Int)]) ++ c.map nIt)) ∧ Below base w w' := by
  obtain ⟨i0, hi, hz0, hz1, hz2⟩ := info_parts in58
  obtain ⟨aa, ab, aoff, acap, rfl, hA, hI⟩ := hL
  have HA := hide hA
  have HI := hide hI
  have HW := hide hb
  obtain ⟨n, hN⟩ : ∃ n, n = c.length := ⟨_, rfl⟩
  rw [← hN] at hc ⊢
  have HN := hide hN
  have m1 := hide (count_any base v k l (n : Int) w hown hbase (by omega))
  have n0 : (0 : Int) ≤ (n : Int) := by omega
  have n5 : (n : Int) ≤ 1024 := by omega
  clear hA hI hb hN hown
  go_enter Tryd.func41, Tryd.ntmps41
  go_wp2_with fail
  refine m1.out.mono ?_
  rintro e w1 ⟨v1, rfl, ho1, hb1⟩
  have O1 : Hid (w1.ownsRow base 58 3 v1 (k + 1 + 0) (itsC ((l ++ [nIt (n : Int)]) ++ (c.take 0).map nIt))) := by
    show w1.ownsRow base 58 3 v1 (k + 1) (itsC ((l ++ [nIt (n : Int)]) ++ []))
    rw [List.append_nil]; exact ho1
  have B1 := hide hb1
  clear ho1 hb1 m1
  go_wp2_with fail
  go_loopw [0, 6, 13] (fun bv _ i wx => ∃ (j : Nat) (b' : Value), j ≤ n ∧ i = .int .i64 (j : Int) ∧ b' = bv ∧ Hid (wx.ownsRow base 58 3 b' (k + 1 + j) (itsC ((l ++ [nIt (n : Int)]) ++ (c.take j).map nIt)) ∧ Below base w wx)) (fun _ _ i _ => n - (intOf i).toNat)
  case atStart => exact ⟨0, _, by omega, rfl, rfl, O1.out, B1.out⟩
  case round =>
    clear O1 B1
    obtain ⟨j, bv, hj, rfl, rfl, hh⟩ := hrel
    have OO := hide hh.out.1
    have BB := hide hh.out.2
    have j0 : (0 : Int) ≤ (j : Int) := by omega
    clear hh
    by_cases hlt : j < n
    · have j1 : (j : Int) < (n : Int) := by omega
      obtain ⟨x, hx⟩ : ∃ x, c[j]? = some x := ⟨_, List.getElem?_eq_getElem (by rw [← HN.out]; exact hlt)⟩
      obtain ⟨hab, rfl⟩ := HA.out (by rw [← HN.out]; omega)
      have c1 := (BB.out.cell (p := ⟨ab, aoff + j, none⟩) (by show ab < base; omega)).trans ((HW.out.cell (p := ⟨ab, aoff + j, none⟩) hab).trans (HI.out j x hx))
      have HT : Hid (itsC ((l ++ [nIt (n : Int)]) ++ (c.take (j + 1)).map nIt) = itsC ((l ++ [nIt (n : Int)]) ++ (c.take j).map nIt) ++ [.bool false, .int .i64 x, .string ⟨#[]⟩]) := by
        show _ = _
        rw [List.take_add_one, hx]
        show itsC (_ ++ (c.take j ++ [x]).map nIt) = _
        rw [List.map_append, ← List.append_assoc]
        exact its_one _ (nIt x)
      have zr := BB.out.size
      have hob : ∀ r, bv.ownBlock = some r → base ≤ r := fun r hr => (OO.out.lt r hr).1
      clear hx
      go_wp2_with (at_builtin; go_must (refine wpList_append_lies _ (by rfl) _ _ _ (by rfl) base 58 i0 _ 3 32 Tryd.underlying52 hi hz0 hz1 hz2 rfl (by omega) bv (k + 1 + j) _ (by rfl) (OO.out.alloc _) ⟨wr.heap.size, 0, none⟩ 1 1 [.bool false, .int .i64 x, .string ⟨#[]⟩] (by rfl) (by rfl) (World.news_of_block (cs := #[.bool false, .int .i64 x, .string ⟨#[]⟩]) (t := 58) (fr := (0, 0)) (heap_alloc_new wr _)) (by simp [Value.oneCell']) (by omega) (by unfold maxLen; omega) (by omega) (by simp; omega) (wr.heap.size + 1) (by simp) ?_; intro gg cap' w3 hown3 hgrow hat hlt3; have B3 := hide ((BB.out.alloc (by omega) _).grown hgrow (by simp; omega) hob)))
      go_roundw
      case rel => exact ⟨j + 1, _, by omega, by go_num, rfl, by rw [HT.out]; exact hown3, B3.out⟩
      case measure => simp [intOf]; omega
    · obtain rfl : j = n := by omega
      have ho := OO.out
      rw [List.take_of_length_le (by rw [← HN.out]; exact Nat.le_refl _)] at ho
      have O9 := hide ho
      clear ho OO
      go_wp2
      go_ret
      exact ⟨_, rfl, O9.out, BB.out⟩
/-- the items of an image -/
def tIt (l : List UInt8) : It := ⟨true, 0, ⟨l.toArray⟩⟩
def cellIt (ty fi : List Int) : List It := (List.zip ty fi).flatMap fun p => [nIt p.1, nIt p.2]
def itP (x : Img) : List It := (((([tIt x.name, nIt (x.ty.length : Int)] ++ cellIt x.ty x.fi) ++ [nIt (x.ins.length : Int)]) ++ x.ins.map nIt ++ [nIt (x.outs.length : Int)]) ++ x.outs.map nIt) ++ [tIt (cdB x.cd)]
theorem cell_next {ty fi : List Int} {j : Nat} {a b : Int} (ha : ty[j]? = some a) (hb : fi[j]? = some b) : cellIt (ty.take (j + 1)) (fi.take (j + 1)) = cellIt (ty.take j) (fi.take j) ++ [nIt a, nIt b] := by
  have h1 : j < ty.length := (List.getElem?_eq_some_iff.1 ha).1
  have h2 : j < fi.length := (List.getElem?_eq_some_iff.1 hb).1
  unfold cellIt
  rw [List.take_add_one, List.take_add_one, ha, hb, List.zip_append (by rw [List.length_take, List.length_take]; omega), List.flatMap_append]
  rfl
end Go.Proofs.YtmbgcpmapaedcaaDoor
