/- The contract of wire.appendItem. -/
import Derived.Test.YtmbgcpmapaedcaaDoorWiNumbW
import Derived.Deep.RegionHeld3
import Derived.Lib.AppendStr
namespace Go.Proofs.YtmbgcpmapaedcaaDoor.Wi
open Go.RowKit
theorem nb_wrap (n : Int) : IntKind.u64.wrap n = ((nb n : Nat) : Int) := by
  unfold nb
  simp [IntKind.wrap, IntKind.bits, IntKind.signed]
  omega
theorem strCells_map (s : ByteArray) : Lib.strCells s = s.data.toList.map encB := rfl
theorem alloc2_at (w : World) (A B : Obj) : ((w.alloc A).alloc B).heap[w.heap.size + 1]? = some B := by have := heap_alloc_new (w.alloc A) B; simpa using this
theorem grow_ne {v : Value} {B gg H n cap : Nat} (hvl : v.ownBlock ≠ some B) (hat : v.ownBlock = some gg ∨ gg = H) (hB : B < H) : some B ≠ (Value.slice (some ⟨gg, 0, none⟩) n cap).ownBlock := by
  intro h
  have h2 : B = gg := by simpa [Value.ownBlock] using h
  rcases hat with e | e
  · rw [e, h2] at hvl; exact hvl rfl
  · omega
set_option maxRecDepth 100000 in
set_option maxHeartbeats 3200000 in
theorem appendItem_any (base : Nat) (v : Value) (k : Nat) (x : It) (xs : List Value) (w : World) (hown : w.ownsRow base 5 1 v k xs) (hbase : base ≤ w.heap.size) (hk : k ≤ 100000000) (hm : x.s.size ≤ 65535) :
    Calls Tryd.prog 39 #[v, itA x] w fun e w' => ∃ v', e = .returned v' ∧ w'.ownsRow base 5 1 v' (k + ib x) (xs ++ (oneB x).map encB) ∧ Below base w w' := by
  obtain ⟨i0, hi, hz0, hz1, hz2⟩ := info_parts in5
  obtain ⟨t, n, s⟩ := x
  have hs : s.size ≤ 65535 := hm
  unfold itA
  have HO := hide hown
  have hvl : v.ownBlock ≠ some w.heap.size := fun e => by have := (hown.lt _ e).2; omega
  have hvb : Hid (∀ r, v.ownBlock = some r → base ≤ r) := fun r hr => (hown.lt r hr).1
  clear hown hm
  cases t with
  | true =>
    have HB : Hid ((oneB ⟨true, n, s⟩).map encB = [.int .u8 36] ++ (two s.size).map encB ++ Lib.strCells s) := by
      show (36 :: (two s.size ++ s.data.toList)).map encB = _
      rw [strCells_map]; simp [encB]
    have HI : Hid (ib ⟨true, n, s⟩ = 3 + s.size) := rfl
    generalize oneB ⟨true, n, s⟩ = ob at *
    generalize ib ⟨true, n, s⟩ = ibx at *
    have s1 : (s.size : Int) ≤ 65535 := by omega
    go_enter Tryd.func39, Tryd.ntmps39
    go_wp2
    go_region_held3 (fun W => W.cell? ⟨w.heap.size, 2, none⟩ = some (.string s)) (first | go_keep | (rw [hgrow.cell_far _ (by simp; omega) (Ne.symm hvl)]; assumption) | (rw [happ.cell (by show w.heap.size < _; omega) hng]; assumption))
      (first
        | (refine step_append_lies _ (by rfl) _ _ _ (by rfl) base 5 i0 _ 1 1 Tryd.underlying61 hi hz0 hz1 hz2 rfl (by omega) v k xs (by rfl) (((HO.out.alloc _).alloc _).drew) ⟨w.heap.size + 1, 0, none⟩ 1 1 [.int .u8 36] (by rfl) (by rfl) (World.news_of_block (cs := #[.int .u8 36]) (t := 5) (fr := (0, 0)) (alloc2_at w _ _)) (by simp [Value.oneCell']) (by omega) (by unfold maxLen; omega) (by omega) (by simp; omega) (w.heap.size + 1 + 1) (by simp) ?_; intro gg cap' w1 hown1 hgrow hat hlt1; have zg : w.heap.size + 1 + 1 ≤ w1.heap.size := Nat.le_trans (by simp) hgrow.size; have hng := grow_ne (n := k + 1) (cap := cap') hvl hat (by omega))
        | (go_at_call 38; refine (appendPair_any base _ (k + 1) s.size _ _ hown1 (by omega) (by omega) (by omega)).mono ?_; rintro e w2 ⟨v2, rfl, happ⟩))
    all_goals
      have hS : w2.cell? ⟨w.heap.size, 2, none⟩ = some (.string s) := by assumption
      have B1 : Below base w w1 := ((((Below.refl base w).alloc hbase _).alloc (by simp; omega) _).drew).grown hgrow (by simp; omega) hvb.out
      have B2 : Below base w w2 := happ.below B1 (by omega) (fun r hr => (hown1.lt r hr).1)
      have HB2 := hide B2
      have HP := hide happ
      have z2 := happ.grow.size
      clear hgrow happ hown1 hat hng B1 B2
      go_wp2_with (at_builtin; go_must (refine Lib.wpList_append_own_string _ (by rfl) _ _ 61 9 (by rfl) base 5 i0 Tryd.underlying61 Tryd.underlying9 hi hz0 hz1 hz2 v2 (k + 1 + 2) _ (by rfl) HP.out.own s (by rfl) (by unfold maxLen; omega) (by omega) (by omega) ?_; intro v3 w3 hown3 hgrow3 hnil3))
      go_ret
      refine ⟨_, rfl, ?_, HB2.out.grown hgrow3 (by omega) (fun r hr => (HP.out.own.lt r hr).1)⟩
      rw [HB.out, HI.out, show k + (3 + s.size) = k + 1 + 2 + s.size from by omega, ← List.append_assoc, ← List.append_assoc]
      exact hown3
  | false =>
    have HB : Hid ((oneB ⟨false, n, s⟩).map encB = [.int .u8 35] ++ (numB (nb n)).map encB) := rfl
    have HI : Hid (ib ⟨false, n, s⟩ = 9) := rfl
    have hnl := nb_lt n
    have hw := nb_wrap n
    generalize oneB ⟨false, n, s⟩ = ob at *
    generalize ib ⟨false, n, s⟩ = ibx at *
    have HN := hide hnl
    clear hnl
    generalize nb n = N at *
    go_enter Tryd.func39, Tryd.ntmps39
    go_wp2
    go_region_held3 (fun W => W.cell? ⟨w.heap.size, 1, none⟩ = some (.int .i64 n)) (first | go_keep | (rw [hgrow.cell_far _ (by simp; omega) (Ne.symm hvl)]; assumption) | (rw [happ.cell (by show w.heap.size < _; omega) hng]; assumption))
      (first
        | (refine step_append_lies _ (by rfl) _ _ _ (by rfl) base 5 i0 _ 1 1 Tryd.underlying61 hi hz0 hz1 hz2 rfl (by omega) v k xs (by rfl) (((HO.out.alloc _).alloc _).drew) ⟨w.heap.size + 1, 0, none⟩ 1 1 [.int .u8 35] (by rfl) (by rfl) (World.news_of_block (cs := #[.int .u8 35]) (t := 5) (fr := (0, 0)) (alloc2_at w _ _)) (by simp [Value.oneCell']) (by omega) (by unfold maxLen; omega) (by omega) (by simp; omega) (w.heap.size + 1 + 1) (by simp) ?_; intro gg cap' w1 hown1 hgrow hat hlt1; have zg : w.heap.size + 1 + 1 ≤ w1.heap.size := Nat.le_trans (by simp) hgrow.size; have hng := grow_ne (n := k + 1) (cap := cap') hvl hat (by omega))
        | (go_at_call 57; refine (appendNumber_any base _ (k + 1) N _ _ hown1 (by omega) (by omega) HN.out).mono ?_; rintro e w2 ⟨v2, rfl, happ⟩))
    all_goals
      have B1 : Below base w w1 := ((((Below.refl base w).alloc hbase _).alloc (by simp; omega) _).drew).grown hgrow (by simp; omega) hvb.out
      have B2 : Below base w w2 := happ.below B1 (by omega) (fun r hr => (hown1.lt r hr).1)
      have HB2 := hide B2
      have HP := hide happ
      clear hgrow happ hown1 hat hng B1 B2
      go_wp2
      go_ret
      refine ⟨_, rfl, ?_, HB2.out⟩
      rw [HB.out, HI.out, ← List.append_assoc]
      exact HP.out.own
end Go.Proofs.YtmbgcpmapaedcaaDoor.Wi
