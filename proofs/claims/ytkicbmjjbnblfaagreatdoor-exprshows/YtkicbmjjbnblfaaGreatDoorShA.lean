/- The contracts of expr.word, sign and number. | The contract of slices.Grow of tokens, at the nil slice; lists of tokens put together by append. | The contract of slices.Concat of lists of tokens. | The contract of expr.inner. | The contract of expr.show: the parts that work on no value. -/
import Derived.Test.YtkicbmjjbnblfaaGreatDoorRxA
import Derived.Lib.SliceRun
import Derived.Lib.AppendZerosOnto
namespace Go.Proofs.YtkicbmjjbnblfaaGreatDoor
open Go.RowKit
def zTok : Array Value := #[.int .i64 0, .string ⟨#[]⟩, .int .i64 0, .int .i64 0, .int .i64 0]
theorem zTok_cells {w : World} {b : Nat} (h : w.heap[b]? = some (.cells zTok 54 (0, 0))) :
    (w.cell? ⟨b, 0, none⟩ = some (.int .i64 0) ∧ w.cell? ⟨b, 1, none⟩ = some (.string ⟨#[]⟩) ∧ w.cell? ⟨b, 2, none⟩ = some (.int .i64 0) ∧ w.cell? ⟨b, 3, none⟩ = some (.int .i64 0) ∧ w.cell? ⟨b, 4, none⟩ = some (.int .i64 0)) ∧ (∀ j, w.frozen? ⟨b, j, none⟩ = false) :=
  ⟨⟨Lib.cell_of_heap h 0, Lib.cell_of_heap h 1, Lib.cell_of_heap h 2, Lib.cell_of_heap h 3, Lib.cell_of_heap h 4⟩, fun j => Lib.frozen_of_heap h j⟩
set_option maxRecDepth 100000 in
set_option maxHeartbeats 1600000 in
theorem wordTok_any (s : ByteArray) (hn : s.size ≤ 140737488355000) (w : World) :
    Calls Tryz.prog 33 #[.string s] w fun e w' => e = .returned (tvA ⟨1, s, 0, 0, 0⟩) ∧ Below w.heap.size w w' := by
  have B0 := (Below.refl w.heap.size w).alloc (Nat.le_refl _) (.cells zTok 54)
  have z0 := World.size_alloc w (.cells zTok 54)
  unfold zTok at B0 z0
  go_enter Tryz.func33, Tryz.ntmps33
  go_wp2_with fail
  refine (sclone_any s hn _).mono ?_
  rintro e w1 ⟨rfl, hb1⟩
  have B1 := hide (B0.trans (hb1.mono B0.size))
  obtain ⟨⟨c0, c1, c2, c3, c4⟩, c5⟩ := zTok_cells (w := w1) (b := w.heap.size) ((hb1.block _ (by rw [z0]; omega)).trans (heap_alloc_new w _))
  clear hb1 B0 z0
  go_wp2
  refine bodyPost_ret (v := tvA ⟨1, s, 0, 0, 0⟩) ?_ rfl ⟨rfl, ?_⟩
  · simp [results, Tryz.results33, go_sem, tvA, c0, c1, c2, c3, c4]
  · exact below5 B1.out (Nat.le_refl _) _ _ _ _ _
set_option maxRecDepth 100000 in
set_option maxHeartbeats 1600000 in
theorem signTok_any (s : ByteArray) (w : World) :
    Calls Tryz.prog 35 #[.string s] w fun e w' => e = .returned (tvA ⟨3, s, 0, 0, 0⟩) ∧ Below w.heap.size w w' := by
  go_enter Tryz.func35, Tryz.ntmps35
  go_wp2
  refine bodyPost_ret (v := tvA ⟨3, s, 0, 0, 0⟩) ?_ rfl ⟨rfl, ?_⟩
  · simp [results, Tryz.results35, go_sem, tvA]
  · exact (Below.refl w.heap.size w).alloc (Nat.le_refl _) _
/-- the token of a number -/
def numTok (n t : Int) : Tv := if t ≠ 1 then ⟨2, ⟨#[]⟩, n, t, 0⟩ else if n = 1 then ⟨1, ⟨#[84, 82, 85, 69]⟩, 0, 0, 0⟩ else ⟨1, ⟨#[70, 65, 76, 83, 69]⟩, 0, 0, 0⟩
set_option maxRecDepth 100000 in
set_option maxHeartbeats 1600000 in
theorem numTok_any (pk pn pt : Int) (pS pF : ByteArray) (w : World) :
    Calls Tryz.prog 32 #[.agg #[.int .i64 pk, .int .i64 pn, .int .i64 pt, .string pS, .string pF]] w fun e w' => e = .returned (tvA (numTok pn pt)) ∧ Below w.heap.size w w' := by
  have B0 := ((Below.refl w.heap.size w).alloc (Nat.le_refl _) (.cells #[.int .i64 pk, .int .i64 pn, .int .i64 pt, .string pS, .string pF] 39)).alloc (by simp) (.cells zTok 54)
  have z0 := World.size_alloc (w.alloc (.cells #[.int .i64 pk, .int .i64 pn, .int .i64 pt, .string pS, .string pF] 39)) (.cells zTok 54)
  rw [World.size_alloc] at z0
  have Z0 := hide z0
  clear z0
  have hrow := heap_alloc_new (w.alloc (.cells #[.int .i64 pk, .int .i64 pn, .int .i64 pt, .string pS, .string pF] 39)) (.cells zTok 54)
  rw [World.size_alloc] at hrow
  by_cases ht : pt = 1
  · by_cases hn : pn = 1
    · have HE : Hid (numTok pn pt = ⟨1, ⟨#[84, 82, 85, 69]⟩, 0, 0, 0⟩) := by show _ = _; unfold numTok; rw [if_neg (by omega), if_pos hn]
      subst ht; subst hn
      unfold zTok at B0 hrow
      go_enter Tryz.func32, Tryz.ntmps32
      go_wp2_with fail
      refine (wordTok_any ⟨#[84, 82, 85, 69]⟩ (by decide) _).mono ?_
      rintro e w1 ⟨rfl, hb1⟩
      have B1 := hide (B0.trans (hb1.mono B0.size))
      obtain ⟨⟨c0, c1, c2, c3, c4⟩, c5⟩ := zTok_cells (w := w1) (b := w.heap.size + 1) ((hb1.block _ (by simp)).trans hrow)
      clear hb1 B0 Z0 hrow
      unfold tvA
      go_wp2
      refine bodyPost_ret (v := tvA ⟨1, ⟨#[84, 82, 85, 69]⟩, 0, 0, 0⟩) ?_ rfl ⟨by rw [HE.out], ?_⟩
      · simp [results, Tryz.results32, go_sem, tvA, c0, c1, c2, c3, c4]
      · exact below5 B1.out (by omega) _ _ _ _ _
    · have HE : Hid (numTok pn pt = ⟨1, ⟨#[70, 65, 76, 83, 69]⟩, 0, 0, 0⟩) := by show _ = _; unfold numTok; rw [if_neg (by omega), if_neg hn]
      have hb : (pn == 1) = false := by rw [beq_eq_false_iff_ne]; exact hn
      subst ht
      unfold zTok at B0 hrow
      go_enter Tryz.func32, Tryz.ntmps32
      go_wp2_with fail
      refine (wordTok_any ⟨#[70, 65, 76, 83, 69]⟩ (by decide) _).mono ?_
      rintro e w1 ⟨rfl, hb1⟩
      have B1 := hide (B0.trans (hb1.mono B0.size))
      obtain ⟨⟨c0, c1, c2, c3, c4⟩, c5⟩ := zTok_cells (w := w1) (b := w.heap.size + 1) ((hb1.block _ (by simp)).trans hrow)
      clear hb1 B0 Z0 hrow
      unfold tvA
      go_wp2
      refine bodyPost_ret (v := tvA ⟨1, ⟨#[70, 65, 76, 83, 69]⟩, 0, 0, 0⟩) ?_ rfl ⟨by rw [HE.out], ?_⟩
      · simp [results, Tryz.results32, go_sem, tvA, c0, c1, c2, c3, c4]
      · exact below5 B1.out (by omega) _ _ _ _ _
  · have HE : Hid (numTok pn pt = ⟨2, ⟨#[]⟩, pn, pt, 0⟩) := by show _ = _; unfold numTok; rw [if_pos ht]
    have hb : (pt == 1) = false := by rw [beq_eq_false_iff_ne]; exact ht
    clear B0 Z0 hrow
    go_enter Tryz.func32, Tryz.ntmps32
    go_wp2
    refine bodyPost_ret (v := tvA ⟨2, ⟨#[]⟩, pn, pt, 0⟩) ?_ rfl ⟨by rw [HE.out], ?_⟩
    · simp [results, Tryz.results32, go_sem, tvA]
    · exact ((Below.refl w.heap.size w).alloc (Nat.le_refl _) _).alloc (by simp) _
end Go.Proofs.YtkicbmjjbnblfaaGreatDoor
namespace Go.Proofs.YtkicbmjjbnblfaaGreatDoor
open Go.RowKit Go.Lib
theorem in41 : (Tryz.prog.info? 54).map (fun i => (i.zero, i.size, i.bytes)) = some (some (.agg zTok), 5, 48) := by kernel_rfl
/-- an empty slice of one's own is answered -/
def GrowPost (w : World) (e : Ending) (w' : World) : Prop := ∃ v, e = .returned v ∧ w'.ownsRow w.heap.size 54 5 v 0 [] ∧ Below w.heap.size w w'
set_option maxRecDepth 100000 in
set_option maxHeartbeats 1600000 in
theorem grow_any (n : Nat) (hn : n ≤ 1000000000000) (w : World) :
    Calls Tryz.prog 53 #[.slice none 0 0, .int .i64 (n : Int)] w (GrowPost w) := by
  by_cases h0 : n = 0
  · subst h0
    have HF : Hid (GrowPost w (.returned (.slice none 0 0)) w) := ⟨_, rfl, World.ownsRow_nil _ _ _ _, Below.refl _ _⟩
    go_enter Tryz.func53, Tryz.ntmps53
    go_wp2
    go_ret
    exact HF.out
  · obtain ⟨i0, hi, hz0, hz1, hz2⟩ := info_parts in41
    have hrz : ∀ ty, (Builtin.append_ #[24, 3] ty #[.slice none 0 0, .int .i64 (n : Int)]).run Tryz.prog w =
        .ok (.slice (some ⟨w.heap.size, 0, none⟩) n (grownCap w n 0 54)) (w.drew.alloc (.cells (([] : List Value).toArray ++ Builtin.zeroCells (Value.agg zTok).cells n ++ Builtin.zeroCells (Value.agg zTok).cells (grownCap w n 0 54 - n)) 54)) := fun ty => by
      have h := Lib.run_append_grow_zeros w 24 3 ty 54 i0 (.agg zTok) .i64 .i64 Tryz.underlying24 Tryz.underlying3 hi hz0 none 0 0 [] (run_firstCells_none w.drew i0.size 0 0 0) n (by omega) (by omega) (by omega) (by omega) (by rw [hz2]; omega)
        (growslice_fits (by omega) (by rw [hz2]; omega))
      rw [Nat.zero_add] at h
      exact h
    have hG : n ≤ grownCap w n 0 54 := grownCap_ge w _ _ _
    have hGm := grownCap_le_maxLen w n 0 54 (by unfold maxLen; omega)
    have hsz : (([] : List Value).toArray ++ Builtin.zeroCells (Value.agg zTok).cells n ++ Builtin.zeroCells (Value.agg zTok).cells (grownCap w n 0 54 - n)).size = grownCap w n 0 54 * 5 := by
      have h5 : (Value.agg zTok).cells.size = 5 := rfl
      simp only [Array.size_append, List.size_toArray, size_zeroCells, h5, List.length_nil]
      omega
    generalize grownCap w n 0 54 = G at *
    generalize (([] : List Value).toArray ++ Builtin.zeroCells (Value.agg zTok).cells n ++ Builtin.zeroCells (Value.agg zTok).cells (G - n)) = C at *
    have HF : Hid (GrowPost w (.returned (.slice (some ⟨w.heap.size, 0, none⟩) 0 G)) (w.drew.alloc (.cells C 54))) := by
      refine ⟨_, rfl, ⟨rfl, .inr ⟨w.heap.size, G, C, rfl, Nat.le_refl _, heap_alloc_new w.drew _, Nat.zero_le _, hGm, hsz, ?_⟩⟩, ?_⟩
      · rw [Nat.zero_mul, List.take_zero]
      · exact ((⟨rfl, rfl, rfl, Nat.le_refl _, fun _ _ => rfl⟩ : Below w.heap.size w w.drew)).alloc (Nat.le_refl _) _
    unfold maxLen at hGm
    have i1 : (0 : Int) < (n : Int) := by omega
    have i2 : ¬ ((n : Int) < 0) := by omega
    have i3 : (n : Int) ≤ 1000000000000 := by omega
    have i4 : (G : Int) ≤ 9223372036854775807 := by omega
    clear hsz hi h0 hn hGm
    go_enter Tryz.func53, Tryz.ntmps53
    go_wp2_with (at_builtin; refine Lib.wpList_append_run _ rfl _ _ _ _ rfl _ _ rfl rfl _ _ (hrz _) ?_)
    all_goals
      go_ret
      exact HF.out
theorem run_append_nils (ty : Nat) (v : Value) (hv : ∃ a n cap, v = .slice a n cap ∧ n ≤ cap) (c : Nat) (W : World) : (Builtin.append_ #[24, 24] ty #[v, .slice none 0 c]).run Tryz.prog W = .ok v W := by
  obtain ⟨a, n, cap, rfl, hn⟩ := hv
  cases a <;> simp [Builtin.append_, go_sem, hn]
theorem owns_slice {w : World} {base n : Nat} {v : Value} {xs : List Value} (h : w.ownsRow base 54 5 v n xs) : ∃ a n cap, v = .slice a n cap ∧ n ≤ cap := by
  rcases h.2 with ⟨hv, _⟩ | ⟨g', cap', cur, hv, hb, hg, hn, hm, hc, ht⟩
  · exact ⟨_, _, _, hv, Nat.le_refl _⟩
  · exact ⟨_, _, _, hv, hn⟩
theorem run_append_toks (w : World) (base ty n : Nat) (v : Value) (xs : List Value) (hown : w.ownsRow base 54 5 v n xs) (u : Value) (l : List Tv) (hL : Lst w u l) (hbytes : n + l.length ≤ 1000000000000) (hbase : base ≤ w.heap.size) :
    ∃ v' w', (Builtin.append_ #[24, 24] ty #[v, u]).run Tryz.prog w = .ok v' w' ∧ w'.ownsRow base 54 5 v' (n + l.length) (xs ++ tvsC l) ∧ w.grownBy w' v.ownBlock := by
  obtain ⟨i0, hi, hz0, hz1, hz2⟩ := info_parts in41
  obtain ⟨a, b, off, c, rfl, hA, hI⟩ := hL
  have main : ∀ ad : Addr, a = some ad → (∀ j x, (tvsC l)[j]? = some x → w.cell? (ad.add j) = some x) → ∃ v' w', (Builtin.append_ #[24, 24] ty #[v, .slice a l.length c]).run Tryz.prog w = .ok v' w' ∧ w'.ownsRow base 54 5 v' (n + l.length) (xs ++ tvsC l) ∧ w.grownBy w' v.ownBlock := fun ad had hc => by
    subst had
    obtain ⟨v', w', hr, h2, h3, h4, _⟩ := run_append_own_at (P := Tryz.prog) w base 24 ty 54 i0 _ 5 48 Tryz.underlying24 hi hz0 hz1 hz2 rfl (by omega) _ n xs hown ad l.length c (tvsC l) (tvsC_length l) hc (tvsC_one l) (by unfold maxLen; omega) (by omega) hbase
    exact ⟨v', w', hr, h2, h3⟩
  by_cases hn : 0 < l.length
  · obtain ⟨_, rfl⟩ := hA hn
    exact main _ rfl (tv_cells hI)
  · have hl : l = [] := List.eq_nil_of_length_eq_zero (by omega)
    subst hl
    cases a with
    | some ad => exact main ad rfl (fun j x hx => by cases hx)
    | none =>
      refine ⟨v, w, run_append_nils ty v (owns_slice hown) c w, ?_, ⟨rfl, rfl, rfl, Nat.le_refl _, fun _ _ _ => rfl⟩⟩
      show w.ownsRow base 54 5 v n (xs ++ [])
      rw [List.append_nil]; exact hown
theorem wpList_append_toks {w : World} {ops : Array Oper} {rest : List Oper} {o : Oper} {a : Act} {Q : Exit → Act → World → Prop} (hgd : Region.wanted o (yielded ops a.tmps) = true) (s x : Operand)
    (ho : o.op = .call { callee := .builtin .append, args := #[s, x], argTypes := #[24, 24] })
    (base n : Nat) (v : Value) (xs : List Value) (hs : a.eval s = v) (hown : w.ownsRow base 54 5 v n xs) (u : Value) (l : List Tv) (hx : a.eval x = u) (hL : Lst w u l) (hbytes : n + l.length ≤ 1000000000000) (hbase : base ≤ w.heap.size)
    (h : ∀ v' w', w'.ownsRow base 54 5 v' (n + l.length) (xs ++ tvsC l) → w.grownBy w' v.ownBlock → wpList Tryz.prog ops Q rest (a.put o.dst v') w') : wpList Tryz.prog ops Q (o :: rest) a w := by
  refine wpList_step fun K hK => ?_
  rw [if_pos hgd]
  obtain ⟨v', w', hr, h2, h3⟩ := run_append_toks w base o.type n v xs hown u l hL hbytes hbase
  unfold Oper.wp execOp
  simp only [ho, resolve, invoke, builtin, Sem.run_bind, Sem.run_pure, Result.andThen_ok, List.map_toArray, List.map_cons, List.map_nil, hs, hx, hr]
  exact hK _ _ (h v' w' h2 h3)
end Go.Proofs.YtkicbmjjbnblfaaGreatDoor
namespace Go.Proofs.YtkicbmjjbnblfaaGreatDoor
open Go.RowKit Go.Lib
/-- a slice of slices of tokens that reads as the lists ls -/
def LLst (w : World) (v : Value) (ls : List (List Tv)) : Prop :=
  ∃ (b off cap : Nat), v = .slice (some ⟨b, off, none⟩) ls.length cap ∧ b < w.heap.size ∧ ∀ i l, ls[i]? = some l → ∃ u, w.cell? ⟨b, off + i, none⟩ = some u ∧ Lst w u l
theorem LLst.below {w w' : World} {v : Value} {ls : List (List Tv)} {B : Nat} (h : LLst w v ls) (hb : Below B w w') (hB : w.heap.size ≤ B) : LLst w' v ls := by
  obtain ⟨b, off, cap, rfl, hlt, hI⟩ := h
  refine ⟨b, off, cap, rfl, Nat.lt_of_lt_of_le hlt (by have := hb.size; omega), fun i l hl => ?_⟩
  obtain ⟨u, h1, h2⟩ := hI i l hl
  exact ⟨u, (hb.cell (p := ⟨b, _, none⟩) (by show b < B; omega)).trans h1, h2.below hb hB⟩
theorem flat_take (ls : List (List Tv)) (k : Nat) (l : List Tv) (h : ls[k]? = some l) : (ls.take (k + 1)).flatten = (ls.take k).flatten ++ l := by
  rw [List.take_add_one, h]; simp
theorem flat_le (ls : List (List Tv)) (k : Nat) : (ls.take k).flatten.length ≤ ls.flatten.length := by
  have h : ls.flatten = (ls.take k).flatten ++ (ls.drop k).flatten := by rw [← List.flatten_append, List.take_append_drop]
  rw [h, List.length_append]; omega
def ConcatPost (w : World) (ls : List (List Tv)) (e : Ending) (w' : World) : Prop := ∃ v, e = .returned v ∧ w'.ownsRow w.heap.size 54 5 v ls.flatten.length (tvsC ls.flatten) ∧ Below w.heap.size w w'
set_option maxRecDepth 100000 in
set_option maxHeartbeats 3200000 in
theorem concat_any (ls : List (List Tv)) (V : Value) (w : World) (hL : LLst w V ls) (hk : ls.length ≤ 1000) (ht : ls.flatten.length ≤ 1000000000) : Calls Tryz.prog 34 #[V] w (ConcatPost w ls) := by
  have HL := hide hL
  obtain ⟨b, off, cap, rfl, hlt, hI⟩ := hL
  have HI := hide hI
  obtain ⟨N, hN⟩ : ∃ N, N = ls.length := ⟨_, rfl⟩
  have HN := hide hN
  rw [← hN] at hk ⊢
  rw [← hN] at HL
  have n5 : (N : Int) ≤ 1000 := by omega
  have HT := hide ht
  have c1 := fun n hn W => grow_any n hn W
  have i0 : (0 : Int) ≤ (N : Int) := by omega
  clear hI hN ht
  go_enter Tryz.func34, Tryz.ntmps34
  go_wp2_with fail
  go_loopw [3, 11] (fun sv i wr => ∃ (k : Nat), k ≤ N ∧ i = .int .i64 (k : Int) ∧ sv = .int .i64 ((ls.take k).flatten.length : Int) ∧ w = wr) (fun _ i _ => N - (intOf i).toNat)
  case atStart => exact ⟨0, by omega, rfl, rfl, rfl⟩
  case round =>
    obtain ⟨k, hk2, rfl, rfl, rfl⟩ := hrel
    by_cases hkN : k < N
    · have j1 : (k : Int) < (N : Int) := by omega
      have j0 : (0 : Int) ≤ (k : Int) := by omega
      obtain ⟨l, hl⟩ : ∃ l, ls[k]? = some l := ⟨_, List.getElem?_eq_getElem (by rw [← HN.out]; exact hkN)⟩
      obtain ⟨u, q1, a2, b2, off2, cap2, rfl, _, _⟩ := HI.out k l hl
      have e1 : (ls.take (k + 1)).flatten.length = (ls.take k).flatten.length + l.length := by rw [flat_take ls k l hl, List.length_append]
      have e2 := flat_le ls (k + 1)
      have e3 := HT.out
      rw [e1] at e2
      have HE := hide e1
      obtain ⟨m, hm⟩ : ∃ m, m = (ls.take k).flatten.length := ⟨_, rfl⟩
      obtain ⟨n, hn⟩ : ∃ n, n = l.length := ⟨_, rfl⟩
      rw [← hm, ← hn] at HE
      rw [← hn] at e2 q1
      rw [← hm] at e2 ⊢
      have j2 : (m : Int) + (n : Int) ≤ 1000000000 := by omega
      have j3 : (0 : Int) ≤ (m : Int) := by omega
      have j4 : (0 : Int) ≤ (n : Int) := by omega
      have j5 : ¬ ((m : Int) + (n : Int) < 0) := by omega
      clear e1 e2 e3 hm hn hl c1
      go_wp2
      go_roundw
      case rel => exact ⟨k + 1, by omega, by go_num, by rw [HE.out]; go_num, trivial⟩
      case measure => simp [intOf]; omega
    · obtain rfl : k = N := by omega
      have htk : ls.take k = ls := List.take_of_length_le (by rw [← HN.out]; exact Nat.le_refl _)
      rw [htk]
      have c2 := c1 ls.flatten.length (by have := HT.out; omega) w
      obtain ⟨T, hT⟩ : ∃ T, T = ls.flatten.length := ⟨_, rfl⟩
      rw [← hT] at c2 ⊢
      have HTT := hide hT
      clear c1 hT htk hkN hk2
      go_wp2_with fail
      refine c2.mono ?_
      rintro e w1 ⟨v1, rfl, ho1, hb1⟩
      have O1 := hide ho1
      have B1 := hide hb1
      clear c2 ho1 hb1
      go_wp2_with fail
      go_loopw [6, 27] (fun nv i wr => ∃ (m : Nat) (nv' : Value), m ≤ k ∧ i = .int .i64 (m : Int) ∧ nv' = nv ∧ Hid (wr.ownsRow w.heap.size 54 5 nv' (ls.take m).flatten.length (tvsC (ls.take m).flatten) ∧ Below w.heap.size w wr)) (fun _ i _ => k - (intOf i).toNat)
      case atStart => exact ⟨0, v1, by omega, rfl, rfl, O1.out, B1.out⟩
      case round =>
        obtain ⟨m, nv, hm, rfl, rfl, hh⟩ := hrel
        have O := hide hh.out.1
        have HB := hide hh.out.2
        clear hh O1 B1
        by_cases hmk : m < k
        · have j1 : (m : Int) < (k : Int) := by omega
          have j0 : (0 : Int) ≤ (m : Int) := by omega
          obtain ⟨l, hl⟩ : ∃ l, ls[m]? = some l := ⟨_, List.getElem?_eq_getElem (by rw [← HN.out]; exact hmk)⟩
          obtain ⟨u, q0, hu⟩ := HI.out m l hl
          have q1 := (HB.out.cell (p := ⟨b, off + m, none⟩) hlt).trans q0
          have HU := hide (hu.below HB.out (Nat.le_refl _))
          have HFT := hide (flat_take ls m l hl)
          have e2 := flat_le ls (m + 1)
          rw [HFT.out, List.length_append] at e2
          have HE2 : Hid ((ls.take m).flatten.length + l.length ≤ 1000000000000) := by have := HT.out; show _ ≤ _; omega
          clear q0 hu hl e2
          go_wp2_with (at_builtin; go_must (refine wpList_append_toks (by rfl) _ _ (by rfl) w.heap.size _ nv _ (by rfl) O.out u l (by rfl) HU.out HE2.out HB.out.size ?_; intro nv3 w3 hown3 hgrow3))
          have B3 := hide (HB.out.grown hgrow3 HB.out.size (fun r hr => (O.out.lt r hr).1))
          have O3 : Hid (w3.ownsRow w.heap.size 54 5 nv3 (ls.take (m + 1)).flatten.length (tvsC (ls.take (m + 1)).flatten)) := by
            show World.ownsRow _ _ _ _ _ _ _
            rw [HFT.out, List.length_append, tvsC_append]
            exact hown3
          clear hown3 hgrow3 O HB HU HE2
          go_wp2
          go_roundw
          case rel => exact ⟨m + 1, nv3, by omega, by go_num, rfl, O3.out, B3.out⟩
          case measure => simp [intOf]; omega
        · obtain rfl : m = k := by omega
          have htk : ls.take m = ls := List.take_of_length_le (by rw [← HN.out]; exact Nat.le_refl _)
          have HF : Hid (ConcatPost w ls (.returned nv) wr) := ⟨nv, rfl, by have h := O.out; rw [htk] at h; exact h, HB.out⟩
          clear htk
          go_wp2
          go_ret
          exact HF.out
end Go.Proofs.YtkicbmjjbnblfaaGreatDoor
namespace Go.Proofs.YtkicbmjjbnblfaaGreatDoor
open Go.RowKit Go.Lib
def lpT : Tv := ⟨3, ⟨#[40]⟩, 0, 0, 0⟩
def rpT : Tv := ⟨3, ⟨#[41]⟩, 0, 0, 0⟩
/-- a slice that reads as L is answered -/
def LstPost (w : World) (L : List Tv) (e : Ending) (w' : World) : Prop := ∃ v, e = .returned v ∧ Lst w' v L ∧ Below w.heap.size w w'
def innerL (op : Bool) (l : List Tv) : List Tv := if op then [lpT] ++ (l ++ [rpT]) else l
theorem Lst.call {w w' : World} {v : Value} {l : List Tv} (h : Lst w v l) (hb : Below w.heap.size w w') : Lst w' v l := h.below hb (Nat.le_refl _)
theorem Lst.alloc {w : World} {v : Value} {l : List Tv} (h : Lst w v l) (o : Obj) : Lst (w.alloc o) v l := h.below ((Below.refl w.heap.size w).alloc (Nat.le_refl _) o) (Nat.le_refl _)
theorem Lst.drew {w : World} {v : Value} {l : List Tv} (h : Lst w v l) : Lst w.drew v l := h.below (⟨rfl, rfl, rfl, Nat.le_refl _, fun _ _ => rfl⟩ : Below w.heap.size w w.drew) (Nat.le_refl _)
theorem tvsC_cells (l : List Tv) {W : World} {g : Nat} (hg : W.heap.size = g) (cs : Array Value) (hc : cs.toList = tvsC l) (n : Nat) (hn : l.length = n) : Lst (W.alloc (.cells cs 54)) (.slice (some ⟨g, 0, none⟩) n n) l := by
  subst hn; subst hg
  have hs : cs.size = l.length * 5 := by rw [← Array.length_toList, hc, tvsC_length]
  refine ⟨_, W.heap.size, 0, l.length, rfl, fun _ => ⟨by rw [World.size_alloc]; omega, rfl⟩, fun i x hx => ?_⟩
  obtain ⟨hi, he⟩ := List.getElem?_eq_some_iff.1 hx
  have key : ∀ j, j < 5 → (W.alloc (.cells cs 54)).cell? ⟨W.heap.size, i * 5 + j, none⟩ = (tvC x)[j]? := fun j hj => by
    rw [Lib.cell_of_heap (heap_alloc_new W _), ← Array.getElem?_toList, hc, tvsC_get l i j hi hj, he]
  rw [Nat.zero_add]
  exact ⟨key 0 (by omega), key 1 (by omega), key 2 (by omega), key 3 (by omega), key 4 (by omega)⟩
theorem llst3 {W : World} {g : Nat} (hg : W.heap.size = g) {v1 v2 v3 : Value} {l1 l2 l3 : List Tv} (h1 : Lst W v1 l1) (h2 : Lst W v2 l2) (h3 : Lst W v3 l3) : LLst (W.alloc (.cells #[v1, v2, v3] 24)) (.slice (some ⟨g, 0, none⟩) 3 3) [l1, l2, l3] := by
  subst hg
  refine ⟨W.heap.size, 0, 3, rfl, by rw [World.size_alloc]; omega, fun i l hl => ?_⟩
  have hh := Lib.cell_of_heap (heap_alloc_new W (.cells #[v1, v2, v3] 24))
  rw [Nat.zero_add]
  match i with
  | 0 => cases hl; exact ⟨v1, hh 0, h1.alloc _⟩
  | 1 => cases hl; exact ⟨v2, hh 1, h2.alloc _⟩
  | 2 => cases hl; exact ⟨v3, hh 2, h3.alloc _⟩
  | i + 3 => cases hl
theorem llst2 {W : World} {g : Nat} (hg : W.heap.size = g) {v1 v2 : Value} {l1 l2 : List Tv} (h1 : Lst W v1 l1) (h2 : Lst W v2 l2) : LLst (W.alloc (.cells #[v1, v2] 24)) (.slice (some ⟨g, 0, none⟩) 2 2) [l1, l2] := by
  subst hg
  refine ⟨W.heap.size, 0, 2, rfl, by rw [World.size_alloc]; omega, fun i l hl => ?_⟩
  have hh := Lib.cell_of_heap (heap_alloc_new W (.cells #[v1, v2] 24))
  rw [Nat.zero_add]
  match i with
  | 0 => cases hl; exact ⟨v1, hh 0, h1.alloc _⟩
  | 1 => cases hl; exact ⟨v2, hh 1, h2.alloc _⟩
  | i + 2 => cases hl
theorem bel_call {B : Nat} {w W W' : World} (h : Below B w W) (hb : Below W.heap.size W W') (hB : B ≤ W.heap.size) : Below B w W' := h.trans (hb.mono hB)
/-- what is kept while a statement is walked -/
def Held (w W : World) : Prop := Below w.heap.size w W
theorem Held.call {w W W' : World} (h : Held w W) (hb : Below W.heap.size W W') : Held w W' := Below.trans h (hb.mono h.size)
theorem Held.alloc {w W : World} (h : Held w W) (o : Obj) : Held w (W.alloc o) := Below.alloc h h.size o
theorem Held.drew {w W : World} (h : Held w W) : Held w W.drew := Below.trans h (⟨rfl, rfl, rfl, Nat.le_refl _, fun _ _ => rfl⟩ : Below w.heap.size W W.drew)
theorem Held.post {w W W' : World} {ls : List (List Tv)} {e : Ending} (h : Held w W) (hp : ConcatPost W ls e W') : LstPost w ls.flatten e W' := by
  obtain ⟨v, rfl, h1, h2⟩ := hp
  exact ⟨v, rfl, Lst.of_owns h1, h.call h2⟩
theorem Held.call' {w W W' : World} (hb : Below W.heap.size W W') (h : Held w W) : Held w W' := h.call hb
theorem Lst.call' {w w' : World} {v : Value} {l : List Tv} (hb : Below w.heap.size w w') (h : Lst w v l) : Lst w' v l := h.call hb
theorem and_right' {a b : Prop} (h : a ∧ b) : b := h.2
set_option maxRecDepth 100000 in
set_option maxHeartbeats 1600000 in
theorem inner_no (l : List Tv) (u : Value) (w : World) (hu : Lst w u l) : Calls Tryz.prog 38 #[.agg #[u, .bool false]] w (LstPost w l) := by
  have hb := (Below.refl w.heap.size w).alloc (Nat.le_refl _) (.cells #[u, .bool false] 44)
  have HF : Hid (LstPost w l (.returned u) (w.alloc (.cells #[u, .bool false] 44))) := ⟨u, rfl, hu.below hb (Nat.le_refl _), hb⟩
  obtain ⟨a, b, off, cap, rfl, _, _⟩ := hu
  clear hb
  generalize l.length = n at *
  go_enter Tryz.func38, Tryz.ntmps38
  go_wp2
  go_ret
  exact HF.out
set_option maxRecDepth 100000 in
set_option maxHeartbeats 3200000 in
theorem inner_yes (l : List Tv) (u : Value) (w : World) (hu : Lst w u l) (hl : l.length ≤ 100000000) : Calls Tryz.prog 38 #[.agg #[u, .bool true]] w (LstPost w ([lpT] ++ (l ++ [rpT]))) := by
  have hk : ∀ W, Held (w.alloc (.cells #[u, .bool true] 44)) W → W.cell? ⟨w.heap.size, 0, none⟩ = some u := fun W h => (h.cell (p := ⟨w.heap.size, 0, none⟩) (by rw [World.size_alloc]; exact Nat.lt_succ_self _)).trans (Lib.cell_of_heap (heap_alloc_new w _) 0)
  have hw : ∀ W, Held (w.alloc (.cells #[u, .bool true] 44)) W → Held w W := fun W h => Held.call ((Below.refl w.heap.size w).alloc (Nat.le_refl _) _) h
  have hL : ∀ W, Held (w.alloc (.cells #[u, .bool true] 44)) W → Lst W u l := fun W h => hu.call (hw W h)
  have h0 : Held (w.alloc (.cells #[u, .bool true] 44)) (w.alloc (.cells #[u, .bool true] 44)) := Below.refl _ _
  obtain ⟨a, b, off, cap, rfl, _, _⟩ := hu
  obtain ⟨L, hLL⟩ : ∃ L, L = [lpT] ++ (l ++ [rpT]) := ⟨_, rfl⟩
  have HG : Hid (∀ W V, LLst W V [[lpT], l, [rpT]] → Held (w.alloc (.cells #[.slice a l.length cap, .bool true] 44)) W → Calls Tryz.prog 34 #[V] W (fun e W' => (∃ v, e = .returned v ∧ Hid (LstPost w L (.returned v) W')) ∧ Below W.heap.size W W')) := fun W V h1 h2 => by
    refine (concat_any _ V W h1 (by simp) (by simp; omega)).mono ?_
    intro e W' hp
    have hq := (hw W h2).post hp
    obtain ⟨v, rfl, _, hb⟩ := hp
    refine ⟨⟨v, rfl, ?_⟩, hb⟩
    show LstPost w L _ W'
    rw [hLL]
    simpa using hq
  have CS := hide signTok_any
  have HK := hide hk
  have HL := hide hL
  rw [← hLL]
  generalize l.length = n at *
  clear hl hk hL hw hLL
  go_enter Tryz.func38, Tryz.ntmps38
  go_wp2
  generalize w.alloc (.cells #[.slice a n cap, .bool true] 44) = X at *
  go_region_held3 (fun W => W.cell? ⟨w.heap.size, 0, none⟩ = some (.slice a n cap) ∧ Held X W) (first | assumption | (focus ((repeat (first | (with_reducible assumption) | ((with_reducible apply and_right'); (with_reducible assumption)) | (with_reducible refine Held.alloc ?_ _) | (with_reducible refine Held.drew ?_) | ((with_reducible apply Held.call'); (focus (with_reducible assumption))))); done)) | (with_reducible refine HK.out _ ?_; (focus ((repeat (first | (with_reducible assumption) | ((with_reducible apply and_right'); (with_reducible assumption)) | (with_reducible refine Held.alloc ?_ _) | (with_reducible refine Held.drew ?_) | ((with_reducible apply Held.call'); (focus (with_reducible assumption))))); done))) | (refine And.intro ?_ ?_ <;> first | (focus ((repeat (first | (with_reducible assumption) | ((with_reducible apply and_right'); (with_reducible assumption)) | (with_reducible refine Held.alloc ?_ _) | (with_reducible refine Held.drew ?_) | ((with_reducible apply Held.call'); (focus (with_reducible assumption))))); done)) | (with_reducible refine HK.out _ ?_; (focus ((repeat (first | (with_reducible assumption) | ((with_reducible apply and_right'); (with_reducible assumption)) | (with_reducible refine Held.alloc ?_ _) | (with_reducible refine Held.drew ?_) | ((with_reducible apply Held.call'); (focus (with_reducible assumption))))); done))))) (first | (go_at_call 35; refine (CS.out _ _).mono ?_; rintro e w2 ⟨rfl, hb2⟩; unfold tvA) | (go_at_call 34; refine (HG.out _ _ ?_ ?_).mono ?_; (focus (refine llst3 ?_ ?_ ?_ ?_; (focus (first | rfl | (simp; done))); (focus (focus ((repeat (first | (with_reducible assumption) | (refine tvsC_cells _ ?_ _ ?_ _ ?_ <;> first | rfl | (simp; done)) | (with_reducible refine Lst.alloc ?_ _) | (with_reducible refine Lst.drew ?_) | ((with_reducible apply Lst.call'); (focus (with_reducible assumption))))); done))); (focus (refine HL.out _ ?_; (focus ((repeat (first | (with_reducible assumption) | ((with_reducible apply and_right'); (with_reducible assumption)) | (with_reducible refine Held.alloc ?_ _) | (with_reducible refine Held.drew ?_) | ((with_reducible apply Held.call'); (focus (with_reducible assumption))))); done)))); (focus (focus ((repeat (first | (with_reducible assumption) | (refine tvsC_cells _ ?_ _ ?_ _ ?_ <;> first | rfl | (simp; done)) | (with_reducible refine Lst.alloc ?_ _) | (with_reducible refine Lst.drew ?_) | ((with_reducible apply Lst.call'); (focus (with_reducible assumption))))); done))))); (focus (focus ((repeat (first | (with_reducible assumption) | ((with_reducible apply and_right'); (with_reducible assumption)) | (with_reducible refine Held.alloc ?_ _) | (with_reducible refine Held.drew ?_) | ((with_reducible apply Held.call'); (focus (with_reducible assumption))))); done))); rintro e w9 ⟨⟨v9, rfl, HB9⟩, hb9⟩))
  all_goals
    have HB : Hid (LstPost w L (.returned v9) w9) := by assumption
    clear h0 HG HK HL
    go_wp2
    go_ret
    exact HB.out
theorem inner_any (l : List Tv) (u : Value) (op : Bool) (w : World) (hu : Lst w u l) (hl : l.length ≤ 100000000) : Calls Tryz.prog 38 #[.agg #[u, .bool op]] w (LstPost w (innerL op l)) := by
  cases op with
  | false => exact inner_no l u w hu
  | true => exact inner_yes l u w hu hl
end Go.Proofs.YtkicbmjjbnblfaaGreatDoor
namespace Go.Proofs.YtkicbmjjbnblfaaGreatDoor
open Go.RowKit Go.Lib
def wdT (s : ByteArray) : Tv := ⟨1, s, 0, 0, 0⟩
def sgT (s : ByteArray) : Tv := ⟨3, s, 0, 0, 0⟩
abbrev ptC (pk pn pt : Int) (pS pF : ByteArray) : Array Value := #[.int .i64 pk, .int .i64 pn, .int .i64 pt, .string pS, .string pF]
/-- a row of one's own that reads as L is answered -/
def RowPost (w : World) (L : List Tv) (e : Ending) (w' : World) : Prop := ∃ v, e = .returned v ∧ w'.ownsRow w.heap.size 54 5 v L.length (tvsC L) ∧ Below w.heap.size w w'
theorem Held.postR {w W W' : World} {ls : List (List Tv)} {e : Ending} (h : Held w W) (hp : ConcatPost W ls e W') : RowPost w ls.flatten e W' := by
  obtain ⟨v, rfl, h1, h2⟩ := hp
  refine ⟨v, rfl, ⟨h1.1, ?_⟩, h.call h2⟩
  rcases h1.2 with q | ⟨g, cap, cur, q1, q2, q3⟩
  · exact .inl q
  · exact .inr ⟨g, cap, cur, q1, Nat.le_trans h.size q2, q3⟩
theorem Held.row {w W : World} {l : List Tv} (h : Held w W) {g n : Nat} (hg : W.heap.size = g) (cs : Array Value) (hc : cs.toList = tvsC l) (hn : l.length = n) (hm : n ≤ 1000) : RowPost w l (.returned (.slice (some ⟨g, 0, none⟩) n n)) (W.alloc (.cells cs 54)) := by
  subst hn; subst hg
  have hs : cs.size = l.length * 5 := by rw [← Array.length_toList, hc, tvsC_length]
  refine ⟨_, rfl, ⟨tvsC_length l, .inr ⟨W.heap.size, l.length, cs, rfl, h.size, heap_alloc_new W _, Nat.le_refl _, by unfold maxLen; omega, hs, ?_⟩⟩, h.alloc _⟩
  rw [hc, ← tvsC_length, List.take_length]
set_option maxRecDepth 100000 in
set_option maxHeartbeats 1600000 in
theorem show_num (pn pt : Int) (pS pF : ByteArray) (V : Value) (w : World) :
    Calls Tryz.prog 18 #[.agg (ptC 1 pn pt pS pF), V] w (RowPost w [numTok pn pt]) := by
  have h0 : Held w (w.alloc (.cells (ptC 1 pn pt pS pF) 39)) := Held.alloc (Below.refl _ _) _
  have c := fun W => numTok_any 1 pn pt pS pF W
  generalize numTok pn pt = x at *
  go_enter Tryz.func18, Tryz.ntmps18
  go_wp2_with fail
  refine (c _).mono ?_
  rintro e w1 ⟨rfl, hb1⟩
  have HF : Hid (RowPost w [x] (.returned (.slice (some ⟨w1.heap.size, 0, none⟩) 1 1)) (w1.alloc (.cells #[.int .i64 x.k, .string x.s, .int .i64 x.n, .int .i64 x.t, .int .i64 x.at_] 54))) := Held.row (h0.call hb1) rfl _ rfl rfl (by decide)
  clear hb1 c h0
  unfold tvA
  go_wp2
  go_ret
  exact HF.out
set_option maxRecDepth 100000 in
set_option maxHeartbeats 1600000 in
theorem show_var (pn pt : Int) (pS pF : ByteArray) (hS : pS.size ≤ 140737488355000) (V : Value) (w : World) :
    Calls Tryz.prog 18 #[.agg (ptC 2 pn pt pS pF), V] w (RowPost w [wdT pS]) := by
  have h0 : Held w (w.alloc (.cells (ptC 2 pn pt pS pF) 39)) := Held.alloc (Below.refl _ _) _
  have c := fun W => wordTok_any pS hS W
  go_enter Tryz.func18, Tryz.ntmps18
  go_wp2_with fail
  refine (c _).mono ?_
  rintro e w1 ⟨rfl, hb1⟩
  have HF : Hid (RowPost w [wdT pS] (.returned (.slice (some ⟨w1.heap.size, 0, none⟩) 1 1)) (w1.alloc (.cells #[.int .i64 1, .string pS, .int .i64 0, .int .i64 0, .int .i64 0] 54))) := Held.row (h0.call hb1) rfl _ rfl rfl (by decide)
  clear hb1 c h0
  unfold tvA
  go_wp2
  go_ret
  exact HF.out
set_option maxRecDepth 100000 in
set_option maxHeartbeats 3200000 in
theorem show_fld (pn pt : Int) (pS pF : ByteArray) (hS : pS.size ≤ 140737488355000) (hF : pF.size ≤ 140737488355000) (V : Value) (w : World) :
    Calls Tryz.prog 18 #[.agg (ptC 4 pn pt pS pF), V] w (RowPost w [wdT pS, sgT ⟨#[46]⟩, wdT pF]) := by
  have hw : ∀ W, Held (w.alloc (.cells (ptC 4 pn pt pS pF) 39)) W → Held w W := fun W h => Held.call ((Below.refl w.heap.size w).alloc (Nat.le_refl _) _) h
  have HW := hide hw
  have hh := heap_alloc_new w (.cells (ptC 4 pn pt pS pF) 39)
  have HK : Hid (∀ W, Held (w.alloc (.cells (ptC 4 pn pt pS pF) 39)) W → W.cell? ⟨w.heap.size, 3, none⟩ = some (.string pS)) := fun W h => (h.cell (p := ⟨w.heap.size, 3, none⟩) (by rw [World.size_alloc]; exact Nat.lt_succ_self _)).trans (Lib.cell_of_heap hh 3)
  have HK2 : Hid (∀ W, Held (w.alloc (.cells (ptC 4 pn pt pS pF) 39)) W → W.cell? ⟨w.heap.size, 4, none⟩ = some (.string pF)) := fun W h => (h.cell (p := ⟨w.heap.size, 4, none⟩) (by rw [World.size_alloc]; exact Nat.lt_succ_self _)).trans (Lib.cell_of_heap hh 4)
  have h0 : Held (w.alloc (.cells (ptC 4 pn pt pS pF) 39)) (w.alloc (.cells (ptC 4 pn pt pS pF) 39)) := Below.refl _ _
  have CS := hide signTok_any
  have CW := hide fun W => wordTok_any pS hS W
  have CV := hide fun W => wordTok_any pF hF W
  clear hS hF hw hh
  go_enter Tryz.func18, Tryz.ntmps18
  go_wp2
  unfold ptC at *
  generalize w.alloc (.cells #[.int .i64 4, .int .i64 pn, .int .i64 pt, .string pS, .string pF] 39) = X at *
  go_region_held3 (fun W => (W.cell? ⟨w.heap.size, 3, none⟩ = some (.string pS) ∧ W.cell? ⟨w.heap.size, 4, none⟩ = some (.string pF)) ∧ Held X W) (first | assumption | (focus ((repeat (first | (with_reducible assumption) | ((with_reducible apply and_right'); (with_reducible assumption)) | (with_reducible refine Held.alloc ?_ _) | (with_reducible refine Held.drew ?_) | ((with_reducible apply Held.call'); (focus (with_reducible assumption))))); done)) | (with_reducible refine HK.out _ ?_; (focus ((repeat (first | (with_reducible assumption) | ((with_reducible apply and_right'); (with_reducible assumption)) | (with_reducible refine Held.alloc ?_ _) | (with_reducible refine Held.drew ?_) | ((with_reducible apply Held.call'); (focus (with_reducible assumption))))); done))) | (with_reducible refine HK2.out _ ?_; (focus ((repeat (first | (with_reducible assumption) | ((with_reducible apply and_right'); (with_reducible assumption)) | (with_reducible refine Held.alloc ?_ _) | (with_reducible refine Held.drew ?_) | ((with_reducible apply Held.call'); (focus (with_reducible assumption))))); done))) | (refine ⟨⟨HK.out _ ?_, HK2.out _ ?_⟩, ?_⟩ <;> (focus ((repeat (first | (with_reducible assumption) | ((with_reducible apply and_right'); (with_reducible assumption)) | (with_reducible refine Held.alloc ?_ _) | (with_reducible refine Held.drew ?_) | ((with_reducible apply Held.call'); (focus (with_reducible assumption))))); done)))) (first | (go_at_call 35; refine (CS.out _ _).mono ?_; rintro e w2 ⟨rfl, hb2⟩; unfold tvA) | (go_at_call 33; refine (CW.out _).mono ?_; rintro e w2 ⟨rfl, hb2⟩; unfold tvA) | (go_at_call 33; refine (CV.out _).mono ?_; rintro e w2 ⟨rfl, hb2⟩; unfold tvA))
  all_goals
    clear CS CW CV HK HK2
    go_wp2
    go_ret
    refine Held.row (HW.out _ ?_) ?_ _ ?_ ?_ ?_
    · (focus ((repeat (first | (with_reducible assumption) | ((with_reducible apply and_right'); (with_reducible assumption)) | (with_reducible refine Held.alloc ?_ _) | (with_reducible refine Held.drew ?_) | ((with_reducible apply Held.call'); (focus (with_reducible assumption))))); done))
    · rfl
    · rfl
    · rfl
    · decide
end Go.Proofs.YtkicbmjjbnblfaaGreatDoor
