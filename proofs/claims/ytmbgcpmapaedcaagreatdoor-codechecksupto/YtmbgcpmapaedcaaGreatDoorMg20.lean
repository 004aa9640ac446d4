/- The contract of wire.appendItem. | Lists in memory, and plain facts on a list's beginning. | The contract of wire.Encode. -/
import Derived.Test.YtmbgcpmapaedcaaGreatDoorMg19
import Derived.Deep.RegionHeld3
import Derived.Lib.AppendStr
import Derived.Laws.IdiomStrings
namespace Go.Proofs.YtmbgcpmapaedcaaGreatDoor.Wi
open Go.RowKit
theorem nb_wrap (n : Int) : IntKind.u64.wrap n = ((nb n : Nat) : Int) := by
  unfold nb
  simp [IntKind.wrap, IntKind.bits, IntKind.signed]
  omega
theorem strCells_map (s : ByteArray) : Lib.strCells s = s.data.toList.map encB := rfl
theorem alloc2_at (w : World) (A B : Obj) : ((w.alloc A).alloc B).heap[w.heap.size + 1]? = some B := by have := heap_alloc_new (w.alloc A) B; simpa using this
theorem grow_ne {v : Value} {B gg H n cap : Nat} (hvl : v.ownBlock ≠ some B) (hat : v.ownBlock = some gg ∨ gg = H) (hB : B < H) : some B ≠ (Value.slice (some ⟨gg, 0, none⟩) n cap).ownBlock := by
  intro h
  have h2 : B = gg := by simpa [Value.ownBlock] using h
  rcases hat with e | e
  · rw [e, h2] at hvl; exact hvl rfl
  · omega
set_option maxRecDepth 100000 in
set_option maxHeartbeats 3200000 in
theorem appendItem_any (base : Nat) (v : Value) (k : Nat) (x : It) (xs : List Value) (w : World) (hown : w.ownsRow base 5 1 v k xs) (hbase : base ≤ w.heap.size) (hk : k ≤ 100000000) (hm : x.s.size ≤ 65535) :
    Calls Tryz.prog 51 #[v, itA x] w fun e w' => ∃ v', e = .returned v' ∧ w'.ownsRow base 5 1 v' (k + ib x) (xs ++ (oneB x).map encB) ∧ Below base w w' := by
  obtain ⟨i0, hi, hz0, hz1, hz2⟩ := info_parts in5
  obtain ⟨t, n, s⟩ := x
  have hs : s.size ≤ 65535 := hm
  unfold itA
  have HO := hide hown
  have hvl : v.ownBlock ≠ some w.heap.size := fun e => by have := (hown.lt _ e).2; omega
  have hvb : Hid (∀ r, v.ownBlock = some r → base ≤ r) := fun r hr => (hown.lt r hr).1
  clear hown hm
  cases t with
  | true =>
    have HB : Hid ((oneB ⟨true, n, s⟩).map encB = [.int .u8 36] ++ (two s.size).map encB ++ Lib.strCells s) := by
      show (36 :: (two s.size ++ s.data.toList)).map encB = _
      rw [strCells_map]; simp [encB]
    have HI : Hid (ib ⟨true, n, s⟩ = 3 + s.size) := rfl
    generalize oneB ⟨true, n, s⟩ = ob at *
    generalize ib ⟨true, n, s⟩ = ibx at *
    have s1 : (s.size : Int) ≤ 65535 := by omega
    go_enter Tryz.func51, Tryz.ntmps51
    go_wp2
    go_region_held3 (fun W => W.cell? ⟨w.heap.size, 2, none⟩ = some (.string s)) (first | go_keep | (rw [hgrow.cell_far _ (by simp; omega) (Ne.symm hvl)]; assumption) | (rw [happ.cell (by show w.heap.size < _; omega) hng]; assumption))
      (first
        | (refine step_append_lies _ (by rfl) _ _ _ (by rfl) base 5 i0 _ 1 1 Tryz.underlying78 hi hz0 hz1 hz2 rfl (by omega) v k xs (by rfl) (((HO.out.alloc _).alloc _).drew) ⟨w.heap.size + 1, 0, none⟩ 1 1 [.int .u8 36] (by rfl) (by rfl) (World.news_of_block (cs := #[.int .u8 36]) (t := 5) (fr := (0, 0)) (alloc2_at w _ _)) (by simp [Value.oneCell']) (by omega) (by unfold maxLen; omega) (by omega) (by simp; omega) (w.heap.size + 1 + 1) (by simp) ?_; intro gg cap' w1 hown1 hgrow hat hlt1; have zg : w.heap.size + 1 + 1 ≤ w1.heap.size := Nat.le_trans (by simp) hgrow.size; have hng := grow_ne (n := k + 1) (cap := cap') hvl hat (by omega))
        | (go_at_call 50; refine (appendPair_any base _ (k + 1) s.size _ _ hown1 (by omega) (by omega) (by omega)).mono ?_; rintro e w2 ⟨v2, rfl, happ⟩))
    all_goals
      have hS : w2.cell? ⟨w.heap.size, 2, none⟩ = some (.string s) := by assumption
      have B1 : Below base w w1 := ((((Below.refl base w).alloc hbase _).alloc (by simp; omega) _).drew).grown hgrow (by simp; omega) hvb.out
      have B2 : Below base w w2 := happ.below B1 (by omega) (fun r hr => (hown1.lt r hr).1)
      have HB2 := hide B2
      have HP := hide happ
      have z2 := happ.grow.size
      clear hgrow happ hown1 hat hng B1 B2
      go_wp2_with (at_builtin; go_must (refine Lib.wpList_append_own_string _ (by rfl) _ _ 78 9 (by rfl) base 5 i0 Tryz.underlying78 Tryz.underlying9 hi hz0 hz1 hz2 v2 (k + 1 + 2) _ (by rfl) HP.out.own s (by rfl) (by unfold maxLen; omega) (by omega) (by omega) ?_; intro v3 w3 hown3 hgrow3 hnil3))
      go_ret
      refine ⟨_, rfl, ?_, HB2.out.grown hgrow3 (by omega) (fun r hr => (HP.out.own.lt r hr).1)⟩
      rw [HB.out, HI.out, show k + (3 + s.size) = k + 1 + 2 + s.size from by omega, ← List.append_assoc, ← List.append_assoc]
      exact hown3
  | false =>
    have HB : Hid ((oneB ⟨false, n, s⟩).map encB = [.int .u8 35] ++ (numB (nb n)).map encB) := rfl
    have HI : Hid (ib ⟨false, n, s⟩ = 9) := rfl
    have hnl := nb_lt n
    have hw := nb_wrap n
    generalize oneB ⟨false, n, s⟩ = ob at *
    generalize ib ⟨false, n, s⟩ = ibx at *
    have HN := hide hnl
    clear hnl
    generalize nb n = N at *
    go_enter Tryz.func51, Tryz.ntmps51
    go_wp2
    go_region_held3 (fun W => W.cell? ⟨w.heap.size, 1, none⟩ = some (.int .i64 n)) (first | go_keep | (rw [hgrow.cell_far _ (by simp; omega) (Ne.symm hvl)]; assumption) | (rw [happ.cell (by show w.heap.size < _; omega) hng]; assumption))
      (first
        | (refine step_append_lies _ (by rfl) _ _ _ (by rfl) base 5 i0 _ 1 1 Tryz.underlying78 hi hz0 hz1 hz2 rfl (by omega) v k xs (by rfl) (((HO.out.alloc _).alloc _).drew) ⟨w.heap.size + 1, 0, none⟩ 1 1 [.int .u8 35] (by rfl) (by rfl) (World.news_of_block (cs := #[.int .u8 35]) (t := 5) (fr := (0, 0)) (alloc2_at w _ _)) (by simp [Value.oneCell']) (by omega) (by unfold maxLen; omega) (by omega) (by simp; omega) (w.heap.size + 1 + 1) (by simp) ?_; intro gg cap' w1 hown1 hgrow hat hlt1; have zg : w.heap.size + 1 + 1 ≤ w1.heap.size := Nat.le_trans (by simp) hgrow.size; have hng := grow_ne (n := k + 1) (cap := cap') hvl hat (by omega))
        | (go_at_call 81; refine (appendNumber_any base _ (k + 1) N _ _ hown1 (by omega) (by omega) HN.out).mono ?_; rintro e w2 ⟨v2, rfl, happ⟩))
    all_goals
      have B1 : Below base w w1 := ((((Below.refl base w).alloc hbase _).alloc (by simp; omega) _).drew).grown hgrow (by simp; omega) hvb.out
      have B2 : Below base w w2 := happ.below B1 (by omega) (fun r hr => (hown1.lt r hr).1)
      have HB2 := hide B2
      have HP := hide happ
      clear hgrow happ hown1 hat hng B1 B2
      go_wp2
      go_ret
      refine ⟨_, rfl, ?_, HB2.out⟩
      rw [HB.out, HI.out, ← List.append_assoc]
      exact HP.out.own
end Go.Proofs.YtmbgcpmapaedcaaGreatDoor.Wi
namespace Go.Proofs.YtmbgcpmapaedcaaGreatDoor.Wi
open Go.RowKit
/-- the items l lie at a place -/
def ItsAt (w : World) (b off : Nat) (l : List It) : Prop :=
  ∀ i x, l[i]? = some x → w.cell? ⟨b, off + i * 3, none⟩ = some (.bool x.t) ∧ w.cell? ⟨b, off + i * 3 + 1, none⟩ = some (.int .i64 x.n) ∧ w.cell? ⟨b, off + i * 3 + 2, none⟩ = some (.string x.s)
/-- a slice that reads as l -/
def Lst (w : World) (v : Value) (l : List It) : Prop :=
  ∃ (a : Option Addr) (b off cap : Nat), v = .slice a l.length cap ∧ (0 < l.length → b < w.heap.size ∧ a = some ⟨b, off, none⟩) ∧ ItsAt w b off l
/-- a list is not beyond what memory has, its numbers are numbers of 64 bits -/
def okL (l : List It) : Prop := l.length ≤ 4398046510976 ∧ ∀ x ∈ l, fits x
theorem Lst.below {w w' : World} {v : Value} {l : List It} {B : Nat} (h : Lst w v l) (hb : Below B w w') (hB : w.heap.size ≤ B) : Lst w' v l := by
  obtain ⟨a, b, off, cap, rfl, hb0, hI⟩ := h
  refine ⟨a, b, off, cap, rfl, fun h => ⟨by have := hb.size; have := (hb0 h).1; omega, (hb0 h).2⟩, fun i x hx => ?_⟩
  have hlt : b < B := by have := (hb0 (by have := (List.getElem?_eq_some_iff.1 hx).1; omega)).1; omega
  obtain ⟨h1, h2, h3⟩ := hI i x hx
  exact ⟨(hb.cell (p := ⟨b, _, none⟩) hlt).trans h1, (hb.cell (p := ⟨b, _, none⟩) hlt).trans h2, (hb.cell (p := ⟨b, _, none⟩) hlt).trans h3⟩
theorem Lst.of_owns {w : World} {base : Nat} {v : Value} {l : List It} (h : w.ownsRow base 61 3 v l.length (itsC l)) : Lst w v l := by
  rcases h.2 with ⟨rfl, h0⟩ | ⟨g, cap, cur, rfl, hb, hg, hn, hm, hc, ht⟩
  · have hl : l = [] := List.eq_nil_of_length_eq_zero h0
    subst hl
    exact ⟨none, 0, 0, 0, rfl, fun h => absurd h (Nat.lt_irrefl 0), fun i x hx => by cases hx⟩
  · refine ⟨some ⟨g, 0, none⟩, g, 0, cap, rfl, fun _ => ⟨(Array.getElem?_eq_some_iff.1 hg).1, rfl⟩, fun i x hx => ?_⟩
    obtain ⟨hi, he⟩ := List.getElem?_eq_some_iff.1 hx
    have key : ∀ j, j < 3 → w.cell? ⟨g, i * 3 + j, none⟩ = (itC x)[j]? := fun j hj => by
      rw [h.cellAt (i * 3 + j) (by omega), itsC_get l i j hi hj, he]
    rw [Nat.zero_add]
    exact ⟨key 0 (by omega), key 1 (by omega), key 2 (by omega)⟩
theorem allMay_take (l : List It) (k : Nat) (x : It) (h : l[k]? = some x) : allMay (l.take (k + 1)) = (allMay (l.take k) && mayB x) := by
  obtain ⟨hk, he⟩ := List.getElem?_eq_some_iff.1 h
  rw [List.take_succ_eq_append_getElem hk, allMay_append, he]
  simp [allMay]
theorem bodyB_take (l : List It) (k : Nat) (x : It) (h : l[k]? = some x) : bodyB (l.take (k + 1)) = bodyB (l.take k) ++ oneB x := by
  obtain ⟨hk, he⟩ := List.getElem?_eq_some_iff.1 h
  rw [List.take_succ_eq_append_getElem hk, bodyB_append, he]
  simp [bodyB]
theorem allMay_false (l : List It) (k : Nat) (x : It) (h : l[k]? = some x) (hm : mayB x = false) : allMay l = false := by
  have h1 := allMay_take l k x h
  rw [hm, Bool.and_false] at h1
  have h2 := allMay_append (l.take (k + 1)) (l.drop (k + 1))
  rw [List.take_append_drop, h1, Bool.false_and] at h2
  exact h2
theorem may_size {x : It} (h : mayB x = true) : x.s.size ≤ 65535 := by
  obtain ⟨t, n, u⟩ := x
  cases t with
  | true =>
    have h : decide (n = 0) = true ∧ decide (u.size ≤ 65535) = true := by simpa only [mayB, if_true, Bool.and_eq_true] using h
    exact of_decide_eq_true h.2
  | false =>
    have h : u.size = 0 := of_decide_eq_true (show decide (u.size = 0) = true from h)
    show u.size ≤ 65535
    omega
theorem ib_le {x : It} (h : mayB x = true) : ib x ≤ 65538 := by
  have := may_size h
  unfold ib
  split <;> omega
theorem body_le (l : List It) (h : allMay l = true) : (bodyB l).length ≤ 65538 * l.length := by
  induction l with
  | nil => simp [bodyB]
  | cons x l ih =>
    simp only [allMay, Bool.and_eq_true] at h
    have h1 := ib_le h.1
    have h2 := ih h.2
    rw [bodyB, List.length_append, oneB_length, List.length_cons]
    omega
theorem body_mono (l : List It) (k : Nat) : (bodyB (l.take k)).length ≤ (bodyB l).length := by
  have h := bodyB_append (l.take k) (l.drop k)
  rw [List.take_append_drop] at h
  rw [h, List.length_append]; omega
theorem encE_long {l : List It} (h : 1000 < l.length) : encE l = 2 ∧ encL l = [] := by
  have e : encE l = 2 := by unfold encE; rw [if_pos h]
  exact ⟨e, by unfold encL; rw [e]; rfl⟩
theorem encE_shape {l : List It} (h1 : ¬ 1000 < l.length) (h : allMay l = false) : encE l = 4 ∧ encL l = [] := by
  have e : encE l = 4 := by unfold encE; rw [if_neg h1, if_pos h]
  exact ⟨e, by unfold encL; rw [e]; rfl⟩
theorem encE_big {l : List It} (h1 : ¬ 1000 < l.length) (h : allMay l = true) (h2 : 65536 < 2 + (bodyB l).length) : encE l = 2 ∧ encL l = [] := by
  have e : encE l = 2 := by unfold encE; rw [if_neg h1, if_neg (by rw [h]; decide), if_pos (by rw [bytesB_length]; exact h2)]
  exact ⟨e, by unfold encL; rw [e]; rfl⟩
theorem encE_fine {l : List It} (h1 : ¬ 1000 < l.length) (h : allMay l = true) (h2 : ¬ 65536 < 2 + (bodyB l).length) : encE l = 0 ∧ encL l = two l.length ++ bodyB l := by
  have e : encE l = 0 := encE_of (by omega) h (by rw [bytesB_length]; omega)
  exact ⟨e, by unfold encL; rw [if_pos e]; rfl⟩
end Go.Proofs.YtmbgcpmapaedcaaGreatDoor.Wi
namespace Go.Proofs.YtmbgcpmapaedcaaGreatDoor.Wi
open Go.RowKit
set_option maxRecDepth 100000 in
set_option maxHeartbeats 3200000 in
theorem encode_any (v : Value) (l : List It) (w : World) (hL : Lst w v l) (ho : okL l) :
    Calls Tryz.prog 22 #[v] w fun e w' => e = .returned (.tuple #[.string ⟨(encL l).toArray⟩, .int .i64 (encE l)]) ∧ Below w.heap.size w w' := by
  obtain ⟨a, b, off, cap, rfl, hA, hI⟩ := hL
  have hlen := ho.1
  have l0 : (l.length : Int) ≤ 4398046510976 := by omega
  by_cases h1 : 1000 < l.length
  · obtain ⟨e1, e2⟩ := encE_long h1
    rw [e1, e2]
    have i1 : (1000 : Int) < (l.length : Int) := by omega
    clear e1 e2 hA hI ho h1 hlen
    generalize l.length = N at *
    go_enter Tryz.func22, Tryz.ntmps22
    go_wp2
    go_ret2
    exact ⟨rfl, Below.refl _ _⟩
  have HA := hide hA
  have HI := hide hI
  have ES := hide (@encE_shape l h1)
  have EB := hide (@encE_big l h1)
  have EF := hide (@encE_fine l h1)
  obtain ⟨N, hN⟩ : ∃ N, N = l.length := ⟨_, rfl⟩
  have HN := hide hN
  rw [← hN] at h1 hlen l0 ⊢
  have i1 : ¬ (1000 : Int) < (N : Int) := by omega
  clear hN hA hI ho hlen l0
  go_enter Tryz.func22, Tryz.ntmps22
  go_wp2_with fail
  go_loopw [4, 15] (fun sz i wr => ∃ k : Nat, k ≤ N ∧ i = .int .i64 k ∧ sz = .int .i64 (2 + ((bodyB (l.take k)).length : Int)) ∧ allMay (l.take k) = true ∧ Below w.heap.size w wr) (fun _ i _ => N - (intOf i).toNat)
  case atStart => exact ⟨0, by omega, rfl, rfl, rfl, Below.refl _ _⟩
  case round =>
    obtain ⟨k, hk, rfl, rfl, ham, hbel⟩ := hrel
    have HB := hide hbel
    have HM := hide ham
    clear hbel ham
    by_cases hlt : k < N
    · have j1 : (k : Int) < (N : Int) := by omega
      have j0 : (0 : Int) ≤ (k : Int) := by omega
      obtain ⟨x, hx⟩ : ∃ x, l[k]? = some x := ⟨_, List.getElem?_eq_getElem (by rw [← HN.out]; exact hlt)⟩
      obtain ⟨hbw, rfl⟩ := HA.out (by rw [← HN.out]; omega)
      obtain ⟨q0, q1, q2⟩ := HI.out k x hx
      have c0 := (HB.out.cell (p := ⟨b, off + k * 3, none⟩) hbw).trans q0
      have c1 := (HB.out.cell (p := ⟨b, off + k * 3 + 1, none⟩) hbw).trans q1
      have c2 := (HB.out.cell (p := ⟨b, off + k * 3 + 2, none⟩) hbw).trans q2
      have m1 := fun W => mayBe_any x W
      have HX := hide hx
      clear q0 q1 q2 hx
      unfold itA at m1
      go_wp2_with fail
      refine (m1 _).mono ?_
      rintro e w1 ⟨rfl, hb1⟩
      have B1 : Hid (Below w.heap.size w w1) := (HB.out.alloc HB.out.size _).trans (hb1.mono (by have := HB.out.size; simp; omega))
      have d0 : w1.cell? ⟨wr.heap.size, 0, none⟩ = some (.bool x.t) := (hb1.cell (p := ⟨wr.heap.size, 0, none⟩) (by simp)).trans (by simp)
      have d1 : w1.cell? ⟨wr.heap.size, 1, none⟩ = some (.int .i64 x.n) := (hb1.cell (p := ⟨wr.heap.size, 1, none⟩) (by simp)).trans (by simp)
      have d2 : w1.cell? ⟨wr.heap.size, 2, none⟩ = some (.string x.s) := (hb1.cell (p := ⟨wr.heap.size, 2, none⟩) (by simp)).trans (by simp)
      clear hb1 m1 c0 c1 c2 HB
      cases hmx : mayB x with
      | false =>
        have E := hide (ES.out (allMay_false l k x HX.out hmx))
        clear hmx d0 d1 d2 EB EF ES
        go_wp2
        go_ret2
        exact ⟨by rw [E.out.1, E.out.2]; rfl, B1.out⟩
      | true =>
        have m2 := fun W => itemBytes_any x (by have := may_size hmx; omega) W
        have hib := ib_le hmx
        have HT := hide (bodyB_take l k x HX.out)
        have HMT : Hid (allMay (l.take (k + 1)) = true) := by
          show _ = _
          rw [allMay_take l k x HX.out, HM.out, hmx]; rfl
        have hbl := body_le (l.take k) HM.out
        rw [List.length_take] at hbl
        have hbl2 : (bodyB (l.take k)).length ≤ 65538 * 1000 := by omega
        have HIB : Hid ((oneB x).length = ib x) := oneB_length x
        have HS : Hid ((2 + ((bodyB (l.take (k + 1))).length : Int)) = (2 + ((bodyB (l.take k)).length : Int)) + (ib x : Int)) := by
          show _ = _
          rw [HT.out, List.length_append, HIB.out]; omega
        unfold itA at m2
        have i5 : (2 + ((bodyB (l.take k)).length : Int)) ≤ 100000000 := by omega
        have i6 : (0 : Int) ≤ (2 + ((bodyB (l.take k)).length : Int)) := by omega
        have i7 : (ib x : Int) ≤ 65538 := by omega
        have i8 : (0 : Int) ≤ (ib x : Int) := by omega
        generalize (2 + ((bodyB (l.take k)).length : Int)) = S at *
        generalize (ib x : Int) = Y at *
        clear hbl hbl2 hib HT hmx HM HIB EB EF ES
        go_wp2_with fail
        refine (m2 _).mono ?_
        rintro e w2 ⟨rfl, hb2⟩
        have B2 : Hid (Below w.heap.size w w2) := B1.out.trans (hb2.mono B1.out.size)
        clear hb2 m2 d0 d1 d2 B1
        go_wp2
        go_roundw
        case rel => exact ⟨k + 1, by omega, by go_num, by rw [HS.out], HMT.out, B2.out⟩
        case measure => simp [intOf]; omega
    · obtain rfl : k = N := by omega
      have htk : l.take k = l := List.take_of_length_le (by rw [HN.out]; exact Nat.le_refl _)
      have HM2 := HM.out
      rw [htk] at HM2 ⊢
      have hbl := body_le l HM2
      rw [← HN.out] at hbl
      have i5 : (2 + ((bodyB l).length : Int)) ≤ 100000000 := by omega
      clear htk HM ES
      by_cases hbig : 65536 < 2 + (bodyB l).length
      · have E := hide (EB.out HM2 hbig)
        have i6 : (65536 : Int) < (2 + ((bodyB l).length : Int)) := by omega
        generalize (2 + ((bodyB l).length : Int)) = S at *
        clear EB EF hbl hbig HM2
        go_wp2
        go_ret2
        exact ⟨by rw [E.out.1, E.out.2]; rfl, HB.out⟩
      · have E : Hid (encE l = 0 ∧ encL l = two k ++ bodyB l) := by
          have h := EF.out HM2 hbig
          rw [← HN.out] at h; exact h
        have i6 : ¬ (65536 : Int) < (2 + ((bodyB l).length : Int)) := by omega
        clear EB EF
        have HM3 := hide HM2
        obtain ⟨Z, hZ⟩ : ∃ Z, Z = 2 + (bodyB l).length := ⟨_, rfl⟩
        have HZ := hide hZ
        have hZ2 : 2 + ((bodyB l).length : Int) = (Z : Int) := by omega
        rw [hZ2] at i5 i6 ⊢
        have z0 : Z ≤ 65536 := by omega
        clear hZ hZ2 hbl HM2
        obtain ⟨i0, hi, hz0, hz1, hz2⟩ := info_parts in5
        have hmk : ∀ u : World, (Instr.makeSlice 78 (.int .i64 0) (.int .i64 (Z : Int))).run Tryz.prog u =
            .ok (.slice (some ⟨u.heap.size, 0, none⟩) 0 Z) (u.alloc (.cells (madeCells #[.int .u8 0] Z) 5)) := fun u => by
          have h := run_make (P := Tryz.prog) u 78 5 i0 (.int .u8 0) Tryz.underlying78 hi hz0 .i64 .i64 0 (Z : Int) (by omega) (by omega) (by rw [hz2]; omega) (by omega)
          simpa [hz1, Value.cells] using h
        have hMs : (madeCells #[.int .u8 0] Z).size = Z * 1 := by simp [madeCells]
        generalize madeCells #[Value.int .u8 0] Z = M at *
        have hst : (wr.alloc (.cells M 5)).ownsRow w.heap.size 5 1 (.slice (some ⟨wr.heap.size, 0, none⟩) 0 Z) 0 [] :=
          World.ownsRow_made wr _ _ HB.out.size (by unfold maxLen; omega) hMs
        have cp := appendPair_any w.heap.size _ 0 k [] _ hst (by have := HB.out.size; simp; omega) (by omega) (by omega)
        have HST := hide hst
        have zr := HB.out.size
        clear hst
        go_wp2_with fail
        refine cp.mono ?_
        rintro e w1 ⟨v1, rfl, happ⟩
        have B1 : Hid (Below w.heap.size w w1) := happ.below (HB.out.alloc zr _) (by simp; omega) (fun r hr => (HST.out.lt r hr).1)
        have O1 : Hid (w1.ownsRow w.heap.size 5 1 v1 (2 + (bodyB (l.take 0)).length) ((two k ++ bodyB (l.take 0)).map encB)) := by
          have h := happ.own
          show w1.ownsRow w.heap.size 5 1 v1 2 ((two k ++ []).map encB)
          rw [List.append_nil]; exact h
        clear happ cp HST hmk HB
        go_wp2_with fail
        go_loopw [7, 36] (fun bv i wx => ∃ (j : Nat) (b' : Value), j ≤ k ∧ i = .int .i64 j ∧ b' = bv ∧ wx.ownsRow w.heap.size 5 1 b' (2 + (bodyB (l.take j)).length) ((two k ++ bodyB (l.take j)).map encB) ∧ Below w.heap.size w wx) (fun _ i _ => k - (intOf i).toNat)
        case atStart => exact ⟨0, _, by omega, rfl, rfl, O1.out, B1.out⟩
        case round =>
          clear O1 B1
          obtain ⟨j, bv, hj, rfl, rfl, hown, hbel⟩ := hrel
          have OO := hide hown
          have BB := hide hbel
          clear hown hbel
          by_cases hlt : j < k
          · have j1 : (j : Int) < (k : Int) := by omega
            have j0 : (0 : Int) ≤ (j : Int) := by omega
            obtain ⟨x, hx⟩ : ∃ x, l[j]? = some x := ⟨_, List.getElem?_eq_getElem (by rw [← HN.out]; exact hlt)⟩
            obtain ⟨hbw, rfl⟩ := HA.out (by rw [← HN.out]; omega)
            obtain ⟨q0, q1, q2⟩ := HI.out j x hx
            have c0 := (BB.out.cell (p := ⟨b, off + j * 3, none⟩) hbw).trans q0
            have c1 := (BB.out.cell (p := ⟨b, off + j * 3 + 1, none⟩) hbw).trans q1
            have c2 := (BB.out.cell (p := ⟨b, off + j * 3 + 2, none⟩) hbw).trans q2
            have hmx : mayB x = true := by
              have h := allMay_take l j x hx
              cases hb : mayB x with
              | true => rfl
              | false => have h2 := allMay_false l j x hx hb; rw [HM3.out] at h2; exact absurd h2 (by decide)
            have hmo := body_mono l j
            have hbz : 2 + (bodyB (l.take j)).length ≤ 65536 := by have := HZ.out; omega
            have hwr := BB.out.size
            have m1 := appendItem_any w.heap.size bv (2 + (bodyB (l.take j)).length) x _ (wr.alloc (.cells #[.bool x.t, .int .i64 x.n, .string x.s] 61)) (OO.out.alloc _) (by simp; omega) (by omega) (may_size hmx)
            rw [← List.map_append, List.append_assoc, ← bodyB_take l j x hx, Nat.add_assoc, ← oneB_length, ← List.length_append, ← bodyB_take l j x hx] at m1
            unfold itA at m1
            clear q0 q1 q2 hx hmo hbz hmx
            go_wp2_with fail
            refine m1.mono ?_
            rintro e w3 ⟨v3, rfl, ho3, hb3⟩
            have O3 := hide ho3
            have B3 : Hid (Below w.heap.size w w3) := (BB.out.alloc hwr _).trans hb3
            clear ho3 hb3 m1 c0 c1 c2 OO BB
            go_wp2
            go_roundw
            case rel => exact ⟨j + 1, _, by omega, by go_num, rfl, O3.out, B3.out⟩
            case measure => simp [intOf]; omega
          · obtain rfl : j = k := by omega
            have htk : l.take j = l := List.take_of_length_le (by rw [HN.out]; exact Nat.le_refl _)
            have ho := OO.out
            rw [htk] at ho
            obtain ⟨g8, cap8, rfl, _, _⟩ := ho.form (by omega)
            have hconv := run_convert_bytes_back (P := Tryz.prog) wr 78 9 5 ⟨g8, 0, none⟩ cap8 (two j ++ bodyB l) Tryz.underlying78 Tryz.underlying5 Tryz.underlying9 (fun i hi => by
              rw [addr_add, ho.cellAt i (by rw [List.length_append, two_length] at hi; omega), List.getElem?_map, List.getElem?_eq_getElem hi]; rfl)
            rw [List.length_append, two_length] at hconv
            clear ho htk OO
            go_wp2
            go_ret2
            exact ⟨by rw [E.out.1, E.out.2]; rfl, BB.out⟩
end Go.Proofs.YtmbgcpmapaedcaaGreatDoor.Wi
