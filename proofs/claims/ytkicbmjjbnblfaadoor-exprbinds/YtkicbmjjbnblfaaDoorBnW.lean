/- The walk of ExprBinds. -/
import Derived.Test.YtkicbmjjbnblfaaDoorWoW
import Derived.Deep.CutRange
namespace Go.Proofs.YtkicbmjjbnblfaaDoor
open Go.RowKit
theorem read_len {l : Bs} {x : List Pt} (h : readP l = some x) : x.length ≤ 500 := by
  obtain ⟨ts, r, _, _, _, hp, _⟩ := read_inv h
  unfold parse at hp
  split at hp
  · cases hp
  · cases hp
  · split at hp
    · cases hp
    · injection hp with hp
      injection hp with h1 h2
      subst h1
      omega
theorem mod15 (a : Int) : ∃ I : Nat, (IntKind.u64.wrap a).tmod 15 = (I : Int) ∧ I < 15 := by
  have h0 : 0 ≤ IntKind.u64.wrap a := by
    have e : IntKind.u64.wrap a = a % (2 ^ 64 : Int) := rfl
    rw [e]
    exact Int.emod_nonneg _ (by decide)
  have h1 := Int.tmod_nonneg 15 h0
  have h2 := Int.tmod_lt_of_pos (IntKind.u64.wrap a) (b := 15) (by decide)
  exact ⟨((IntKind.u64.wrap a).tmod 15).toNat, by omega, by omega⟩
theorem wds_len : wds.length = 15 := rfl
theorem rws_len : rws.length = 15 := rfl
/-- what the texts of two operations say -/
theorem bind_at (I K : Nat) (hI : I < 15) (hK : K < 15) : ∃ x l r, readP (bX (wds[I]'hI) (wds[K]'hK)) = some x ∧ readP (bL (wds[I]'hI) (wds[K]'hK)) = some l ∧ readP (bR (wds[I]'hI) (wds[K]'hK)) = some r ∧ l ≠ r ∧ (rws[I]'hI < rws[K]'hK → x = r) ∧ (¬ rws[I]'hI < rws[K]'hK → x = l) := by
  have h1 := List.all_eq_true.1 binds_all (wds[I]'hI, rws[I]'hI) (List.mem_iff_getElem.2 ⟨I, by simpa [wds_len, rws_len] using hI, by simp; exact ⟨rfl, rfl⟩⟩)
  have h2 := List.all_eq_true.1 h1 (wds[K]'hK, rws[K]'hK) (List.mem_iff_getElem.2 ⟨K, by simpa [wds_len, rws_len] using hK, by simp; exact ⟨rfl, rfl⟩⟩)
  simp only [] at h2
  unfold bindOk at h2
  split at h2
  · rename_i x l r e1 e2 e3
    rw [Bool.and_eq_true] at h2
    refine ⟨x, l, r, e1, e2, e3, ?_, ?_, ?_⟩
    · intro e
      have := h2.1
      rw [(ptsB_iff l r).2 e] at this
      cases this
    · intro hlt
      have := h2.2
      rw [decide_eq_true hlt, if_pos rfl] at this
      exact (ptsB_iff x r).1 this
    · intro hlt
      have := h2.2
      rw [decide_eq_false hlt, if_neg (by decide)] at this
      exact (ptsB_iff x l).1 this
  · cases h2
theorem wds_cells : (wds.map fun x => Value.string ⟨x.toArray⟩).toArray = #[.string ⟨#[79, 82]⟩, .string ⟨#[88, 79, 82]⟩, .string ⟨#[65, 78, 68]⟩, .string ⟨#[38]⟩, .string ⟨#[61]⟩, .string ⟨#[60, 62]⟩, .string ⟨#[60]⟩, .string ⟨#[60, 61]⟩, .string ⟨#[62]⟩, .string ⟨#[62, 61]⟩, .string ⟨#[43]⟩, .string ⟨#[45]⟩, .string ⟨#[42]⟩, .string ⟨#[47]⟩, .string ⟨#[77, 79, 68]⟩] := rfl
theorem rws_cells : (rws.map fun x => Value.int .i64 ((x : Nat) : Int)).toArray = #[.int .i64 0, .int .i64 1, .int .i64 2, .int .i64 2, .int .i64 3, .int .i64 3, .int .i64 4, .int .i64 4, .int .i64 4, .int .i64 4, .int .i64 5, .int .i64 5, .int .i64 6, .int .i64 6, .int .i64 6] := rfl
/-- the memory of the law, in which the two tables lie -/
theorem bn_words (w : World) (I : Nat) (hI : I < 15) (o : Obj) : ((w.alloc (.cells #[.string ⟨#[79, 82]⟩, .string ⟨#[88, 79, 82]⟩, .string ⟨#[65, 78, 68]⟩, .string ⟨#[38]⟩, .string ⟨#[61]⟩, .string ⟨#[60, 62]⟩, .string ⟨#[60]⟩, .string ⟨#[60, 61]⟩, .string ⟨#[62]⟩, .string ⟨#[62, 61]⟩, .string ⟨#[43]⟩, .string ⟨#[45]⟩, .string ⟨#[42]⟩, .string ⟨#[47]⟩, .string ⟨#[77, 79, 68]⟩] 9)).alloc o).cell? ⟨w.heap.size, I, none⟩ = some (.string ⟨(wds[I]'hI).toArray⟩) := by
  rw [World.cell?_alloc_lt _ _ _ (by simp), Lib.cell_of_heap (heap_alloc_new w _), ← wds_cells, List.getElem?_toArray, List.getElem?_map, List.getElem?_eq_getElem hI]; rfl
theorem bn_rows (w : World) (I : Nat) (hI : I < 15) (o : Obj) : ((w.alloc o).alloc (.cells #[.int .i64 0, .int .i64 1, .int .i64 2, .int .i64 2, .int .i64 3, .int .i64 3, .int .i64 4, .int .i64 4, .int .i64 4, .int .i64 4, .int .i64 5, .int .i64 5, .int .i64 6, .int .i64 6, .int .i64 6] 3)).cell? ⟨w.heap.size + 1, I, none⟩ = some (.int .i64 (((rws[I]'hI : Nat)) : Int)) := by
  rw [Lib.cell_of_heap (alloc2_z w _ _), ← rws_cells, List.getElem?_toArray, List.getElem?_map, List.getElem?_eq_getElem hI]; rfl
theorem str_add (a b : ByteArray) (h : a.size + b.size ≤ 1000000) : Op.stringOp .add a b = pure (.string (a ++ b)) := by
  unfold Op.stringOp
  simp only []
  rw [if_neg]
  have : IntKind.i64.max = 9223372036854775807 := by decide
  omega
theorem app_text (x y : Bs) : (⟨x.toArray⟩ : ByteArray) ++ ⟨y.toArray⟩ = ⟨(x ++ y).toArray⟩ := by
  apply ByteArray.ext
  simp
theorem cats (a b p q r : Bs) (h : p.length + a.length + q.length + b.length + r.length ≤ 1000) : ∃ u1 u2 u3 u4 : ByteArray, Op.stringOp .add ⟨p.toArray⟩ ⟨a.toArray⟩ = pure (.string u1) ∧ Op.stringOp .add u1 ⟨q.toArray⟩ = pure (.string u2) ∧ Op.stringOp .add u2 ⟨b.toArray⟩ = pure (.string u3) ∧ Op.stringOp .add u3 ⟨r.toArray⟩ = pure (.string u4) ∧ u4 = ⟨(p ++ a ++ q ++ b ++ r).toArray⟩ ∧ u1 = ⟨(p ++ a).toArray⟩ := by
  refine ⟨⟨(p ++ a).toArray⟩, ⟨(p ++ a ++ q).toArray⟩, ⟨(p ++ a ++ q ++ b).toArray⟩, _, ?_, ?_, ?_, ?_, rfl, rfl⟩
  · rw [← app_text]; exact str_add _ _ (by rw [list_size, list_size]; omega)
  · rw [← app_text (p ++ a)]; exact str_add _ _ (by rw [list_size, list_size]; simp; omega)
  · rw [← app_text (p ++ a ++ q)]; exact str_add _ _ (by rw [list_size, list_size]; simp; omega)
  · rw [← app_text (p ++ a ++ q ++ b)]; exact str_add _ _ (by rw [list_size, list_size]; simp; omega)
theorem wd_len (I : Nat) (h : I < 15) : (wds[I]'h).length ≤ 3 := by
  have hall : ∀ n ∈ wds, n.length ≤ 3 := by decide
  exact hall _ (List.getElem_mem _)
/-- what a text that is read leaves -/
def Got (X : World) (x : List Pt) (v : Value) (W : World) : Prop := Below X.heap.size X W ∧ ∃ xs, xs.map ptV = x ∧ PLst W v xs ∧ xs.length ≤ 500
theorem got_on {X W W' : World} {x : List Pt} {v : Value} (h : Got X x v W) (hb : Below W.heap.size W W') : Got X x v W' := by
  obtain ⟨h1, xs, h2, h3, h4⟩ := h
  exact ⟨h1.trans (hb.mono h1.size), xs, h2, h3.below hb (Nat.le_refl _), h4⟩
theorem got_read {X W : World} {l : Bs} {x : List Pt} (hr : readP l = some x) (hX : Below X.heap.size X W) (hg : Glo X) : Calls Tryd.prog 15 #[.string ⟨l.toArray⟩] W fun e W' => (∃ v, e = .returned (.tuple #[v, .bool true]) ∧ Hid (Got X x v W')) ∧ Below W.heap.size W W' :=
  (read_ok l x hr W (hg.below hX hg.lt)).mono fun e W' ⟨v, xs, h1, h2, h3, h4⟩ => ⟨⟨v, h1, hX.trans (h4.mono hX.size), xs, h2, PLst.of_owns h3, by have := read_len hr; rw [← h2, List.length_map] at this; exact this⟩, h4⟩
set_option maxRecDepth 100000 in
set_option maxHeartbeats 6400000 in
theorem binds_row (a b : Int) (_ha : (Lit.int .i64 a).wf = true) (_hb : (Lit.int .i64 b).wf = true) (w : World) (hg : Glo w) : Calls Tryd.prog 5 #[.int .i64 a, .int .i64 b] w fun e w' => e = .returned (.bool true) ∧ Below w.heap.size w w' := by
  have c1 := works_ok w hg
  obtain ⟨I, hI, hI15⟩ := mod15 a
  obtain ⟨K, hK, hK15⟩ := mod15 b
  obtain ⟨x, l, r, hx, hl, hr, hne, hup, hdn⟩ := bind_at I K hI15 hK15
  have HG := hide hg
  have i1 : (I : Int) < 15 := by omega
  have i0 : (0 : Int) ≤ (I : Int) := by omega
  have k1 : (K : Int) < 15 := by omega
  have k0 : (0 : Int) ≤ (K : Int) := by omega
  have HX := hide hx
  have HL := hide hl
  have HR := hide hr
  have HNE := hide hne
  have HUP := hide hup
  have HDN := hide hdn
  clear hx hl hr hne hup hdn hg
  go_enter Tryd.func5, Tryd.ntmps5
  go_wp2_with fail
  refine c1.mono ?_
  rintro e w1 ⟨rfl, hb1⟩
  obtain ⟨X, hXX⟩ : ∃ X, X = ((w1.alloc (.cells #[.string ⟨#[79, 82]⟩, .string ⟨#[88, 79, 82]⟩, .string ⟨#[65, 78, 68]⟩, .string ⟨#[38]⟩, .string ⟨#[61]⟩, .string ⟨#[60, 62]⟩, .string ⟨#[60]⟩, .string ⟨#[60, 61]⟩, .string ⟨#[62]⟩, .string ⟨#[62, 61]⟩, .string ⟨#[43]⟩, .string ⟨#[45]⟩, .string ⟨#[42]⟩, .string ⟨#[47]⟩, .string ⟨#[77, 79, 68]⟩] 9)).alloc (.cells #[.int .i64 0, .int .i64 1, .int .i64 2, .int .i64 2, .int .i64 3, .int .i64 3, .int .i64 4, .int .i64 4, .int .i64 4, .int .i64 4, .int .i64 5, .int .i64 5, .int .i64 6, .int .i64 6, .int .i64 6] 3)) := ⟨_, rfl⟩
  have bX1 : Below w1.heap.size w1 X := by rw [hXX]; exact ((Below.refl _ _).alloc (Nat.le_refl _) _).alloc (by simp) _
  have BX := hide (hb1.trans (bX1.mono hb1.size))
  have GX := hide (HG.out.below BX.out HG.out.lt)
  have q1 : X.cell? ⟨w1.heap.size, I, none⟩ = some (.string ⟨(wds[I]'hI15).toArray⟩) := by rw [hXX]; exact bn_words w1 I hI15 _
  have q2 : X.cell? ⟨w1.heap.size, K, none⟩ = some (.string ⟨(wds[K]'hK15).toArray⟩) := by rw [hXX]; exact bn_words w1 K hK15 _
  have q3 : X.cell? ⟨w1.heap.size + 1, I, none⟩ = some (.int .i64 ((rws[I]'hI15 : Nat) : Int)) := by rw [hXX]; exact bn_rows w1 I hI15 _
  have q4 : X.cell? ⟨w1.heap.size + 1, K, none⟩ = some (.int .i64 ((rws[K]'hK15 : Nat) : Int)) := by rw [hXX]; exact bn_rows w1 K hK15 _
  have hz : X.heap.size = w1.heap.size + 2 := by rw [hXX]; simp
  have HXX := hide hXX
  clear c1 hb1 bX1 hXX
  obtain ⟨SA, hSA⟩ : ∃ SA : ByteArray, SA = ⟨(wds[I]'hI15).toArray⟩ := ⟨_, rfl⟩
  obtain ⟨SB, hSB⟩ : ∃ SB : ByteArray, SB = ⟨(wds[K]'hK15).toArray⟩ := ⟨_, rfl⟩
  obtain ⟨u11, u12, u13, u14, a11, a12, a13, a14, hu1, hv1⟩ := cats (wds[I]'hI15) (wds[K]'hK15) [112, 32] [32, 113, 32] [32, 114] (by have := wd_len I hI15; have := wd_len K hK15; simp; omega)
  rw [← hSA] at a11
  rw [← hSB] at a13
  have HT1 : Hid (u14 = ⟨(bX (wds[I]'hI15) (wds[K]'hK15)).toArray⟩) := hu1
  obtain ⟨u21, u22, u23, u24, a21, a22, a23, a24, hu2, hv2⟩ := cats (wds[I]'hI15) (wds[K]'hK15) [40, 112, 32] [32, 113, 41, 32] [32, 114] (by have := wd_len I hI15; have := wd_len K hK15; simp; omega)
  rw [← hSA] at a21
  rw [← hSB] at a23
  have HT2 : Hid (u24 = ⟨(bL (wds[I]'hI15) (wds[K]'hK15)).toArray⟩) := hu2
  obtain ⟨u31, u32, u33, u34, a31, a32, a33, a34, hu3, hv3⟩ := cats (wds[I]'hI15) (wds[K]'hK15) [112, 32] [32, 40, 113, 32] [32, 114, 41] (by have := wd_len I hI15; have := wd_len K hK15; simp; omega)
  rw [← hSA] at a31
  rw [← hSB] at a33
  have HT3 : Hid (u34 = ⟨(bR (wds[I]'hI15) (wds[K]'hK15)).toArray⟩) := hu3
  rw [← hSA] at q1
  rw [← hSB] at q2
  obtain ⟨RI, hRI⟩ : ∃ RI : Nat, RI = rws[I]'hI15 := ⟨_, rfl⟩
  obtain ⟨RK, hRK⟩ : ∃ RK : Nat, RK = rws[K]'hK15 := ⟨_, rfl⟩
  rw [← hRI] at q3 HUP HDN
  rw [← hRK] at q4 HUP HDN
  have HS : Hid (∀ W, Below X.heap.size X W → (W.cell? ⟨w1.heap.size, I, none⟩ = some (.string SA) ∧ W.cell? ⟨w1.heap.size, K, none⟩ = some (.string SB)) ∧ Below X.heap.size X W) := fun W h => ⟨⟨(h.cell (p := ⟨w1.heap.size, I, none⟩) (by show w1.heap.size < _; omega)).trans q1, (h.cell (p := ⟨w1.heap.size, K, none⟩) (by show w1.heap.size < _; omega)).trans q2⟩, h⟩
  have HS2 : Hid (∀ W, Below X.heap.size X W → W.cell? ⟨w1.heap.size + 1, I, none⟩ = some (.int .i64 (RI : Int)) ∧ W.cell? ⟨w1.heap.size + 1, K, none⟩ = some (.int .i64 (RK : Int))) := fun W h => ⟨(h.cell (p := ⟨w1.heap.size + 1, I, none⟩) (by show w1.heap.size + 1 < _; omega)).trans q3, (h.cell (p := ⟨w1.heap.size + 1, K, none⟩) (by show w1.heap.size + 1 < _; omega)).trans q4⟩
  have HRB : Hid (RI ≤ 6 ∧ RK ≤ 6) := by
    have hall : ∀ n ∈ rws, n ≤ 6 := by decide
    exact ⟨by rw [hRI]; exact hall _ (List.getElem_mem _), by rw [hRK]; exact hall _ (List.getElem_mem _)⟩
  have CR : ∀ (T : ByteArray) (l : Bs) (y : List Pt), T = ⟨l.toArray⟩ → readP l = some y → Hid (∀ Y, Below X.heap.size X Y → ∀ W, (W.cell? ⟨w1.heap.size, I, none⟩ = some (.string SA) ∧ W.cell? ⟨w1.heap.size, K, none⟩ = some (.string SB)) ∧ Below Y.heap.size Y W → Calls Tryd.prog 15 #[.string T] W fun e w' => (∃ v, e = .returned (.tuple #[v, .bool true]) ∧ Hid (Got X y v w' ∧ Below Y.heap.size Y w')) ∧ (w'.cell? ⟨w1.heap.size, I, none⟩ = some (.string SA) ∧ w'.cell? ⟨w1.heap.size, K, none⟩ = some (.string SB)) ∧ Below Y.heap.size Y w') := fun T l y hT hy Y hY W h => by
    rw [hT]
    have hXW : Below X.heap.size X W := hY.trans (h.2.mono hY.size)
    exact (got_read hy hXW GX.out).mono fun e w' ⟨⟨v, h1, h3⟩, h2⟩ => ⟨⟨v, h1, h3.out, h.2.trans (h2.mono h.2.size)⟩, (HS.out w' (hXW.trans (h2.mono hXW.size))).1, h.2.trans (h2.mono h.2.size)⟩
  have C1 := CR _ _ _ HT1.out HX.out
  have C2 := CR _ _ _ HT2.out HL.out
  have C3 := CR _ _ _ HT3.out HR.out
  have S0 := HS.out X (Below.refl _ _)
  have D1 := hide (C1.out X (Below.refl _ _))
  obtain rfl : u31 = u11 := by rw [hv3, hv1]
  clear hu1 hu2 hu3 a31 hv1 hv2 hv3
  clear CR HT1 HT2 HT3 q1 q2 q3 q4 HX HL HR hSA hSB hRI hRK GX
  go_wp2
  rw [← HXX.out]
  clear HXX
  go_cut [9, 10] from 27 to 42 (fun v b wx => b = .bool true ∧ Hid (Got X x v wx ∧ Below X.heap.size X wx))
  case first =>
    go_region_held3 (fun W => (W.cell? ⟨w1.heap.size, I, none⟩ = some (.string SA) ∧ W.cell? ⟨w1.heap.size, K, none⟩ = some (.string SB)) ∧ Below X.heap.size X W) (first | assumption | exact ⟨S0.1, S0.2.drew⟩) (first | (go_at_call 15; refine (D1.out _ ?_).mono ?_; assumption; rintro e w6 ⟨⟨v, rfl, hgot⟩, hs6⟩))
    all_goals (go_wp2_with fail; go_meet; exact ⟨rfl, hgot⟩)
  case rest =>
  obtain ⟨rfl, hgx⟩ := hcut
  have S1 := (show (wc.cell? ⟨w1.heap.size, I, none⟩ = some (.string SA) ∧ wc.cell? ⟨w1.heap.size, K, none⟩ = some (.string SB)) ∧ Below wc.heap.size wc wc from ⟨(HS.out wc hgx.out.1.1).1, Below.refl _ _⟩)
  have D2 := hide (C2.out wc hgx.out.1.1)
  clear S0 D1 C1 C2
  obtain ⟨wd, hwd⟩ : ∃ wd, wd = wc := ⟨_, rfl⟩
  obtain ⟨v9, hv9⟩ : ∃ v9, v9 = u9 := ⟨_, rfl⟩
  rw [← hwd, ← hv9] at hgx
  rw [← hwd] at S1 D2
  rw [← hwd, ← hv9]
  clear hwd hv9
  clear wc u9
  go_wp2
  go_cut [11, 12] from 43 to 58 (fun v b wx => b = .bool true ∧ Hid (Got X l v wx ∧ Below wd.heap.size wd wx))
  case first =>
    go_region_held3 (fun W => (W.cell? ⟨w1.heap.size, I, none⟩ = some (.string SA) ∧ W.cell? ⟨w1.heap.size, K, none⟩ = some (.string SB)) ∧ Below wd.heap.size wd W) (first | assumption | exact ⟨S1.1, S1.2.drew⟩) (first | (go_at_call 15; refine (D2.out _ ?_).mono ?_; assumption; rintro e w6 ⟨⟨v, rfl, hgot⟩, hs6⟩))
    all_goals (go_wp2_with fail; go_meet; exact ⟨rfl, hgot⟩)
  case rest =>
  obtain ⟨rfl, hgl⟩ := hcut
  have HX2 := hide (got_on hgx.out.1 hgl.out.2)
  have S2 := (show (wc.cell? ⟨w1.heap.size, I, none⟩ = some (.string SA) ∧ wc.cell? ⟨w1.heap.size, K, none⟩ = some (.string SB)) ∧ Below wc.heap.size wc wc from ⟨(HS.out wc hgl.out.1.1).1, Below.refl _ _⟩)
  have D3 := hide (C3.out wc hgl.out.1.1)
  clear S1 D2 C3 hgx
  obtain ⟨we, hwe⟩ : ∃ we, we = wc := ⟨_, rfl⟩
  obtain ⟨v11, hv11⟩ : ∃ v11, v11 = u11 := ⟨_, rfl⟩
  rw [← hwe, ← hv11] at hgl
  rw [← hwe] at S2 D3 HX2
  rw [← hwe, ← hv11]
  clear hwe hv11
  clear wc u11
  go_wp2
  go_cut [13, 14] from 59 to 74 (fun v b wx => b = .bool true ∧ Hid (Got X r v wx ∧ Below we.heap.size we wx))
  case first =>
    go_region_held3 (fun W => (W.cell? ⟨w1.heap.size, I, none⟩ = some (.string SA) ∧ W.cell? ⟨w1.heap.size, K, none⟩ = some (.string SB)) ∧ Below we.heap.size we W) (first | assumption | exact ⟨S2.1, S2.2.drew⟩) (first | (go_at_call 15; refine (D3.out _ ?_).mono ?_; assumption; rintro e w6 ⟨⟨v, rfl, hgot⟩, hs6⟩))
    all_goals (go_wp2_with fail; go_meet; exact ⟨rfl, hgot⟩)
  case rest =>
  obtain ⟨rfl, hgr⟩ := hcut
  obtain ⟨_, xs, hxs, hpx, hlx⟩ := got_on HX2.out hgr.out.2
  obtain ⟨_, ls, hls, hpl, hll⟩ := got_on hgl.out.1 hgr.out.2
  obtain ⟨hbx, rs, hrs, hpr, hlr⟩ := hgr.out.1
  have c4 := sameParts_any v11 u13 ls rs wc hpl hpr (by omega) (by omega)
  have B4 := hide (BX.out.trans (hbx.mono BX.out.size))
  have HNO : Hid (¬ ls = rs) := fun h => HNE.out (by rw [← hls, ← hrs, h])
  have HCELL := hide (fun W h => HS2.out W (hbx.trans (Below.mono h hbx.size)))
  have HPX := hide hpx
  have HPL := hide hpl
  have HPR := hide hpr
  have HEX1 : Hid (RI < RK → xs = rs) := fun h => by rw [pvs_back hxs, pvs_back hrs, HUP.out h]
  have HEX2 : Hid (¬ RI < RK → xs = ls) := fun h => by rw [pvs_back hxs, pvs_back hls, HDN.out h]
  clear S2 D3 HX2 hgl hgr hpx hpl hpr hxs hls hrs HUP HDN HS HS2 hbx
  go_wp2_with fail
  refine c4.mono ?_
  rintro e w5 ⟨⟨bb, rfl, hbb⟩, hb5⟩
  obtain rfl : bb = false := by
    cases bb with
    | false => rfl
    | true => exact absurd (hbb.1 rfl) HNO.out
  have B5 := hide (B4.out.trans (hb5.mono B4.out.size))
  obtain ⟨r1, r2⟩ := HCELL.out w5 hb5
  have HPX5 := hide (HPX.out.below hb5 (Nat.le_refl _))
  have HPL5 := hide (HPL.out.below hb5 (Nat.le_refl _))
  have HPR5 := hide (HPR.out.below hb5 (Nat.le_refl _))
  clear c4 hbb hb5 HPX HPL HPR HCELL B4 HNO
  have rb1 : (RI : Int) ≤ 6 := by have := HRB.out.1; omega
  have rb2 : (RK : Int) ≤ 6 := by have := HRB.out.2; omega
  go_wp2
  go_quiet (fail)
  rename_i nq
  have B6 := hide (below_drawn B5.out nq)
  have hd6 : Below w5.heap.size w5 (w5.drewN nq) := below_drawn (Below.refl _ _) nq
  by_cases hlt : RI < RK
  · have i9 : (RI : Int) < (RK : Int) := by omega
    have c7 := sameParts_any v9 u13 xs rs (w5.drewN nq) (HPX5.out.below hd6 (Nat.le_refl _)) (HPR5.out.below hd6 (Nat.le_refl _)) (by omega) (by omega)
    have HEQ := hide (HEX1.out hlt)
    clear hd6 HPX5 HPL5 HPR5 hlt
    go_wp2_with fail
    refine c7.mono ?_
    rintro e w7 ⟨⟨bb, rfl, hbb⟩, hb7⟩
    obtain rfl : bb = true := hbb.2 HEQ.out
    have B7 := hide (B6.out.trans (hb7.mono B6.out.size))
    clear c7 hbb hb7
    go_wp2
    go_ret
    exact ⟨rfl, B7.out⟩
  · have i9 : ¬ (RI : Int) < (RK : Int) := by omega
    have c7 := sameParts_any v9 v11 xs ls (w5.drewN nq) (HPX5.out.below hd6 (Nat.le_refl _)) (HPL5.out.below hd6 (Nat.le_refl _)) (by omega) (by omega)
    have HEQ := hide (HEX2.out hlt)
    clear hd6 HPX5 HPL5 HPR5 hlt
    go_wp2_with fail
    refine c7.mono ?_
    rintro e w7 ⟨⟨bb, rfl, hbb⟩, hb7⟩
    obtain rfl : bb = true := hbb.2 HEQ.out
    have B7 := hide (B6.out.trans (hb7.mono B6.out.size))
    clear c7 hbb hb7
    go_wp2
    go_ret
    exact ⟨rfl, B7.out⟩
end Go.Proofs.YtkicbmjjbnblfaaDoor
