/- The contract of wire.appendItem. | Lists in memory, and plain facts on a list's beginning. -/
import Derived.Test.YtmbgcpmapaedcaaDoorMg18
import Derived.Deep.RegionHeld3
import Derived.Lib.AppendStr
namespace Go.Proofs.YtmbgcpmapaedcaaDoor.Wi
open Go.RowKit
theorem nb_wrap (n : Int) : IntKind.u64.wrap n = ((nb n : Nat) : Int) := by
  unfold nb
  simp [IntKind.wrap, IntKind.bits, IntKind.signed]
  omega
theorem strCells_map (s : ByteArray) : Lib.strCells s = s.data.toList.map encB := rfl
theorem alloc2_at (w : World) (A B : Obj) : ((w.alloc A).alloc B).heap[w.heap.size + 1]? = some B := by have := heap_alloc_new (w.alloc A) B; simpa using this
theorem grow_ne {v : Value} {B gg H n cap : Nat} (hvl : v.ownBlock ≠ some B) (hat : v.ownBlock = some gg ∨ gg = H) (hB : B < H) : some B ≠ (Value.slice (some ⟨gg, 0, none⟩) n cap).ownBlock := by
  intro h
  have h2 : B = gg := by simpa [Value.ownBlock] using h
  rcases hat with e | e
  · rw [e, h2] at hvl; exact hvl rfl
  · omega
set_option maxRecDepth 100000 in
set_option maxHeartbeats 3200000 in
theorem appendItem_any (base : Nat) (v : Value) (k : Nat) (x : It) (xs : List Value) (w : World) (hown : w.ownsRow base 5 1 v k xs) (hbase : base ≤ w.heap.size) (hk : k ≤ 100000000) (hm : x.s.size ≤ 65535) :
    Calls Tryd.prog 39 #[v, itA x] w fun e w' => ∃ v', e = .returned v' ∧ w'.ownsRow base 5 1 v' (k + ib x) (xs ++ (oneB x).map encB) ∧ Below base w w' := by
  obtain ⟨i0, hi, hz0, hz1, hz2⟩ := info_parts in5
  obtain ⟨t, n, s⟩ := x
  have hs : s.size ≤ 65535 := hm
  unfold itA
  have HO := hide hown
  have hvl : v.ownBlock ≠ some w.heap.size := fun e => by have := (hown.lt _ e).2; omega
  have hvb : Hid (∀ r, v.ownBlock = some r → base ≤ r) := fun r hr => (hown.lt r hr).1
  clear hown hm
  cases t with
  | true =>
    have HB : Hid ((oneB ⟨true, n, s⟩).map encB = [.int .u8 36] ++ (two s.size).map encB ++ Lib.strCells s) := by
      show (36 :: (two s.size ++ s.data.toList)).map encB = _
      rw [strCells_map]; simp [encB]
    have HI : Hid (ib ⟨true, n, s⟩ = 3 + s.size) := rfl
    generalize oneB ⟨true, n, s⟩ = ob at *
    generalize ib ⟨true, n, s⟩ = ibx at *
    have s1 : (s.size : Int) ≤ 65535 := by omega
    go_enter Tryd.func39, Tryd.ntmps39
    go_wp2
    go_region_held3 (fun W => W.cell? ⟨w.heap.size, 2, none⟩ = some (.string s)) (first | go_keep | (rw [hgrow.cell_far _ (by simp; omega) (Ne.symm hvl)]; assumption) | (rw [happ.cell (by show w.heap.size < _; omega) hng]; assumption))
      (first
        | (refine step_append_lies _ (by rfl) _ _ _ (by rfl) base 5 i0 _ 1 1 Tryd.underlying61 hi hz0 hz1 hz2 rfl (by omega) v k xs (by rfl) (((HO.out.alloc _).alloc _).drew) ⟨w.heap.size + 1, 0, none⟩ 1 1 [.int .u8 36] (by rfl) (by rfl) (World.news_of_block (cs := #[.int .u8 36]) (t := 5) (fr := (0, 0)) (alloc2_at w _ _)) (by simp [Value.oneCell']) (by omega) (by unfold maxLen; omega) (by omega) (by simp; omega) (w.heap.size + 1 + 1) (by simp) ?_; intro gg cap' w1 hown1 hgrow hat hlt1; have zg : w.heap.size + 1 + 1 ≤ w1.heap.size := Nat.le_trans (by simp) hgrow.size; have hng := grow_ne (n := k + 1) (cap := cap') hvl hat (by omega))
        | (go_at_call 38; refine (appendPair_any base _ (k + 1) s.size _ _ hown1 (by omega) (by omega) (by omega)).mono ?_; rintro e w2 ⟨v2, rfl, happ⟩))
    all_goals
      have hS : w2.cell? ⟨w.heap.size, 2, none⟩ = some (.string s) := by assumption
      have B1 : Below base w w1 := ((((Below.refl base w).alloc hbase _).alloc (by simp; omega) _).drew).grown hgrow (by simp; omega) hvb.out
      have B2 : Below base w w2 := happ.below B1 (by omega) (fun r hr => (hown1.lt r hr).1)
      have HB2 := hide B2
      have HP := hide happ
      have z2 := happ.grow.size
      clear hgrow happ hown1 hat hng B1 B2
      go_wp2_with (at_builtin; go_must (refine Lib.wpList_append_own_string _ (by rfl) _ _ 61 9 (by rfl) base 5 i0 Tryd.underlying61 Tryd.underlying9 hi hz0 hz1 hz2 v2 (k + 1 + 2) _ (by rfl) HP.out.own s (by rfl) (by unfold maxLen; omega) (by omega) (by omega) ?_; intro v3 w3 hown3 hgrow3 hnil3))
      go_ret
      refine ⟨_, rfl, ?_, HB2.out.grown hgrow3 (by omega) (fun r hr => (HP.out.own.lt r hr).1)⟩
      rw [HB.out, HI.out, show k + (3 + s.size) = k + 1 + 2 + s.size from by omega, ← List.append_assoc, ← List.append_assoc]
      exact hown3
  | false =>
    have HB : Hid ((oneB ⟨false, n, s⟩).map encB = [.int .u8 35] ++ (numB (nb n)).map encB) := rfl
    have HI : Hid (ib ⟨false, n, s⟩ = 9) := rfl
    have hnl := nb_lt n
    have hw := nb_wrap n
    generalize oneB ⟨false, n, s⟩ = ob at *
    generalize ib ⟨false, n, s⟩ = ibx at *
    have HN := hide hnl
    clear hnl
    generalize nb n = N at *
    go_enter Tryd.func39, Tryd.ntmps39
    go_wp2
    go_region_held3 (fun W => W.cell? ⟨w.heap.size, 1, none⟩ = some (.int .i64 n)) (first | go_keep | (rw [hgrow.cell_far _ (by simp; omega) (Ne.symm hvl)]; assumption) | (rw [happ.cell (by show w.heap.size < _; omega) hng]; assumption))
      (first
        | (refine step_append_lies _ (by rfl) _ _ _ (by rfl) base 5 i0 _ 1 1 Tryd.underlying61 hi hz0 hz1 hz2 rfl (by omega) v k xs (by rfl) (((HO.out.alloc _).alloc _).drew) ⟨w.heap.size + 1, 0, none⟩ 1 1 [.int .u8 35] (by rfl) (by rfl) (World.news_of_block (cs := #[.int .u8 35]) (t := 5) (fr := (0, 0)) (alloc2_at w _ _)) (by simp [Value.oneCell']) (by omega) (by unfold maxLen; omega) (by omega) (by simp; omega) (w.heap.size + 1 + 1) (by simp) ?_; intro gg cap' w1 hown1 hgrow hat hlt1; have zg : w.heap.size + 1 + 1 ≤ w1.heap.size := Nat.le_trans (by simp) hgrow.size; have hng := grow_ne (n := k + 1) (cap := cap') hvl hat (by omega))
        | (go_at_call 57; refine (appendNumber_any base _ (k + 1) N _ _ hown1 (by omega) (by omega) HN.out).mono ?_; rintro e w2 ⟨v2, rfl, happ⟩))
    all_goals
      have B1 : Below base w w1 := ((((Below.refl base w).alloc hbase _).alloc (by simp; omega) _).drew).grown hgrow (by simp; omega) hvb.out
      have B2 : Below base w w2 := happ.below B1 (by omega) (fun r hr => (hown1.lt r hr).1)
      have HB2 := hide B2
      have HP := hide happ
      clear hgrow happ hown1 hat hng B1 B2
      go_wp2
      go_ret
      refine ⟨_, rfl, ?_, HB2.out⟩
      rw [HB.out, HI.out, ← List.append_assoc]
      exact HP.out.own
end Go.Proofs.YtmbgcpmapaedcaaDoor.Wi
namespace Go.Proofs.YtmbgcpmapaedcaaDoor.Wi
open Go.RowKit
/-- the items l lie at a place -/
def ItsAt (w : World) (b off : Nat) (l : List It) : Prop :=
  ∀ i x, l[i]? = some x → w.cell? ⟨b, off + i * 3, none⟩ = some (.bool x.t) ∧ w.cell? ⟨b, off + i * 3 + 1, none⟩ = some (.int .i64 x.n) ∧ w.cell? ⟨b, off + i * 3 + 2, none⟩ = some (.string x.s)
/-- a slice that reads as l -/
def Lst (w : World) (v : Value) (l : List It) : Prop :=
  ∃ (a : Option Addr) (b off cap : Nat), v = .slice a l.length cap ∧ (0 < l.length → b < w.heap.size ∧ a = some ⟨b, off, none⟩) ∧ ItsAt w b off l
/-- a list is not beyond what memory has, its numbers are numbers of 64 bits -/
def okL (l : List It) : Prop := l.length ≤ 4398046510976 ∧ ∀ x ∈ l, fits x
theorem Lst.below {w w' : World} {v : Value} {l : List It} {B : Nat} (h : Lst w v l) (hb : Below B w w') (hB : w.heap.size ≤ B) : Lst w' v l := by
  obtain ⟨a, b, off, cap, rfl, hb0, hI⟩ := h
  refine ⟨a, b, off, cap, rfl, fun h => ⟨by have := hb.size; have := (hb0 h).1; omega, (hb0 h).2⟩, fun i x hx => ?_⟩
  have hlt : b < B := by have := (hb0 (by have := (List.getElem?_eq_some_iff.1 hx).1; omega)).1; omega
  obtain ⟨h1, h2, h3⟩ := hI i x hx
  exact ⟨(hb.cell (p := ⟨b, _, none⟩) hlt).trans h1, (hb.cell (p := ⟨b, _, none⟩) hlt).trans h2, (hb.cell (p := ⟨b, _, none⟩) hlt).trans h3⟩
theorem Lst.of_owns {w : World} {base : Nat} {v : Value} {l : List It} (h : w.ownsRow base 58 3 v l.length (itsC l)) : Lst w v l := by
  rcases h.2 with ⟨rfl, h0⟩ | ⟨g, cap, cur, rfl, hb, hg, hn, hm, hc, ht⟩
  · have hl : l = [] := List.eq_nil_of_length_eq_zero h0
    subst hl
    exact ⟨none, 0, 0, 0, rfl, fun h => absurd h (Nat.lt_irrefl 0), fun i x hx => by cases hx⟩
  · refine ⟨some ⟨g, 0, none⟩, g, 0, cap, rfl, fun _ => ⟨(Array.getElem?_eq_some_iff.1 hg).1, rfl⟩, fun i x hx => ?_⟩
    obtain ⟨hi, he⟩ := List.getElem?_eq_some_iff.1 hx
    have key : ∀ j, j < 3 → w.cell? ⟨g, i * 3 + j, none⟩ = (itC x)[j]? := fun j hj => by
      rw [h.cellAt (i * 3 + j) (by omega), itsC_get l i j hi hj, he]
    rw [Nat.zero_add]
    exact ⟨key 0 (by omega), key 1 (by omega), key 2 (by omega)⟩
theorem allMay_take (l : List It) (k : Nat) (x : It) (h : l[k]? = some x) : allMay (l.take (k + 1)) = (allMay (l.take k) && mayB x) := by
  obtain ⟨hk, he⟩ := List.getElem?_eq_some_iff.1 h
  rw [List.take_succ_eq_append_getElem hk, allMay_append, he]
  simp [allMay]
theorem bodyB_take (l : List It) (k : Nat) (x : It) (h : l[k]? = some x) : bodyB (l.take (k + 1)) = bodyB (l.take k) ++ oneB x := by
  obtain ⟨hk, he⟩ := List.getElem?_eq_some_iff.1 h
  rw [List.take_succ_eq_append_getElem hk, bodyB_append, he]
  simp [bodyB]
theorem allMay_false (l : List It) (k : Nat) (x : It) (h : l[k]? = some x) (hm : mayB x = false) : allMay l = false := by
  have h1 := allMay_take l k x h
  rw [hm, Bool.and_false] at h1
  have h2 := allMay_append (l.take (k + 1)) (l.drop (k + 1))
  rw [List.take_append_drop, h1, Bool.false_and] at h2
  exact h2
theorem may_size {x : It} (h : mayB x = true) : x.s.size ≤ 65535 := by
  obtain ⟨t, n, u⟩ := x
  cases t with
  | true =>
    have h : decide (n = 0) = true ∧ decide (u.size ≤ 65535) = true := by simpa only [mayB, if_true, Bool.and_eq_true] using h
    exact of_decide_eq_true h.2
  | false =>
    have h : u.size = 0 := of_decide_eq_true (show decide (u.size = 0) = true from h)
    show u.size ≤ 65535
    omega
theorem ib_le {x : It} (h : mayB x = true) : ib x ≤ 65538 := by
  have := may_size h
  unfold ib
  split <;> omega
theorem body_le (l : List It) (h : allMay l = true) : (bodyB l).length ≤ 65538 * l.length := by
  induction l with
  | nil => simp [bodyB]
  | cons x l ih =>
    simp only [allMay, Bool.and_eq_true] at h
    have h1 := ib_le h.1
    have h2 := ih h.2
    rw [bodyB, List.length_append, oneB_length, List.length_cons]
    omega
theorem body_mono (l : List It) (k : Nat) : (bodyB (l.take k)).length ≤ (bodyB l).length := by
  have h := bodyB_append (l.take k) (l.drop k)
  rw [List.take_append_drop] at h
  rw [h, List.length_append]; omega
theorem encE_long {l : List It} (h : 1000 < l.length) : encE l = 2 ∧ encL l = [] := by
  have e : encE l = 2 := by unfold encE; rw [if_pos h]
  exact ⟨e, by unfold encL; rw [e]; rfl⟩
theorem encE_shape {l : List It} (h1 : ¬ 1000 < l.length) (h : allMay l = false) : encE l = 4 ∧ encL l = [] := by
  have e : encE l = 4 := by unfold encE; rw [if_neg h1, if_pos h]
  exact ⟨e, by unfold encL; rw [e]; rfl⟩
theorem encE_big {l : List It} (h1 : ¬ 1000 < l.length) (h : allMay l = true) (h2 : 65536 < 2 + (bodyB l).length) : encE l = 2 ∧ encL l = [] := by
  have e : encE l = 2 := by unfold encE; rw [if_neg h1, if_neg (by rw [h]; decide), if_pos (by rw [bytesB_length]; exact h2)]
  exact ⟨e, by unfold encL; rw [e]; rfl⟩
theorem encE_fine {l : List It} (h1 : ¬ 1000 < l.length) (h : allMay l = true) (h2 : ¬ 65536 < 2 + (bodyB l).length) : encE l = 0 ∧ encL l = two l.length ++ bodyB l := by
  have e : encE l = 0 := encE_of (by omega) h (by rw [bytesB_length]; omega)
  exact ⟨e, by unfold encL; rw [if_pos e]; rfl⟩
end Go.Proofs.YtmbgcpmapaedcaaDoor.Wi
