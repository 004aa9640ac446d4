/- The contract of the reader's word, over those of field and of the rows' closure. -/
import Derived.Test.YtkicbmjjbnblfaaDoorRvW
namespace Go.Proofs.YtkicbmjjbnblfaaDoor
open Go.RowKit
/-- what stands where a word begins a value -/
def wordR (f op : Nat) (s : Bs) (q : List Tk) : Option Res :=
  if s = truB then some (.ok ([numP 1 1], q))
  else if s = falB then some (.ok ([numP 0 1], q))
  else if toT s ≠ 0 then addP (toP (toT s)) (within [40] [41] op q (rd f (.row 0) (op + 1)))
  else if nameB s = true then named s q (within [91] [93] op q (rd f (.row 0) (op + 1)))
  else some (.error (q.length + 1, 60))
theorem pri_word {f op i : Nat} {toks : List Tv} (hlt : i < toks.length) (hk : (tokAt toks i).k = 1) : rd (f + 1) .pri op (lst toks i) = wordR f op (tokAt toks i).s.data.toList (lst toks (i + 1)) := by
  rw [lst_cons hlt]
  unfold rd wordR
  simp only []
  have h1 : (tkV (tokAt toks i)).kind = 1 := hk
  have h2 : (tkV (tokAt toks i)).s = (tokAt toks i).s.data.toList := rfl
  rw [if_neg (by rw [h1]; decide)]
  rw [h2, h1]
  simp only [true_and]
  have hw : ∀ go, within [40] [41] op (tkV (tokAt toks i) :: lst toks (i + 1)) go = some (.error ((lst toks (i + 1)).length + 1, 60)) := fun go => by
    unfold within
    simp only []
    rw [if_neg (by unfold isSign; rw [h1]; simp)]
  rw [hw]
theorem cv_to {s : Bs} {k : Nat} (hk : k < 3) (h : s = (cvRows[k]'hk).1) : s ≠ truB ∧ s ≠ falB ∧ toT s = (cvRows[k]'hk).2 ∧ toT s ≠ 0 := by
  have : k = 0 ∨ k = 1 ∨ k = 2 := by omega
  rcases this with rfl | rfl | rfl
  · subst h; exact (by decide : ([84, 79, 95, 73, 78, 84] : Bs) ≠ truB ∧ ([84, 79, 95, 73, 78, 84] : Bs) ≠ falB ∧ toT [84, 79, 95, 73, 78, 84] = 2 ∧ toT [84, 79, 95, 73, 78, 84] ≠ 0)
  · subst h; exact (by decide : ([84, 79, 95, 68, 73, 78, 84] : Bs) ≠ truB ∧ ([84, 79, 95, 68, 73, 78, 84] : Bs) ≠ falB ∧ toT [84, 79, 95, 68, 73, 78, 84] = 3 ∧ toT [84, 79, 95, 68, 73, 78, 84] ≠ 0)
  · subst h; exact (by decide : ([84, 79, 95, 84, 73, 77, 69] : Bs) ≠ truB ∧ ([84, 79, 95, 84, 73, 77, 69] : Bs) ≠ falB ∧ toT [84, 79, 95, 84, 73, 77, 69] = 4 ∧ toT [84, 79, 95, 84, 73, 77, 69] ≠ 0)
theorem cv_not {s : Bs} (h : ∀ k (hk : k < 3), s ≠ (cvRows[k]'hk).1) : toT s = 0 := by
  unfold toT
  have h0 : s ≠ [84, 79, 95, 73, 78, 84] := h 0 (by decide)
  have h1 : s ≠ [84, 79, 95, 68, 73, 78, 84] := h 1 (by decide)
  have h2 : s ≠ [84, 79, 95, 84, 73, 77, 69] := h 2 (by decide)
  rw [if_neg h0, if_neg h1, if_neg h2]
theorem text_eq {S : ByteArray} {s : Bs} : S = ⟨s.toArray⟩ ↔ S.data.toList = s := by
  constructor
  · intro h; rw [h]
  · intro h; rw [← h, text_back]
set_option maxRecDepth 100000 in
set_option maxHeartbeats 3200000 in
theorem word_num {B R P1 P2 : Nat} {tv : Value} {toks : List Tv} {f : Nat} (hl : toks.length ≤ 3000000000000) (n : Int) (s : Bs) (hs : (s = truB ∧ n = 1) ∨ (s = falB ∧ n = 0)) (at_ op : Nat) (ps : List Pv) (fa fc : Int) (w : World) (res : Res) (hp : ps.length ≤ at_) (hlt : at_ < toks.length) (h : RS B R tv toks at_ op ps fa fc w)
    (hr : wordR f op s (lst toks (at_ + 1)) = some res) : Calls Tryd.prog 88 #[.pointer (some ⟨R, 0, none⟩), .string ⟨s.toArray⟩, fvOf P1 P2] w (PostR B R tv toks op ps fa fc res w) := by
  have HR2 : Hid (res = .ok ([numP n 1], lst toks (at_ + 1))) := by
    show _ = _
    unfold wordR at hr
    rcases hs with ⟨rfl, rfl⟩ | ⟨rfl, rfl⟩
    · rw [if_pos rfl] at hr
      exact (Option.some.inj hr).symm
    · rw [if_neg (by decide), if_pos rfl] at hr
      exact (Option.some.inj hr).symm
  obtain ⟨d1, _, d3⟩ := h.cells
  obtain ⟨r1, k1⟩ := h.step hlt
  have c1 := add_any r1 (by omega) ⟨1, n, 1, ⟨#[]⟩, ⟨#[]⟩⟩
  simp only [] at c1
  have K1 := hide k1
  have i3 : (at_ : Int) ≤ 3000000000000 := by omega
  have i4 : (0 : Int) ≤ (at_ : Int) := by omega
  obtain ⟨FV, hFV⟩ : ∃ FV, FV = fvOf P1 P2 := ⟨_, rfl⟩
  rw [← hFV]
  have hsz : toks.length - (toks.length - (at_ + 1)) = at_ + 1 := by omega
  have HSZ := hide hsz
  clear h r1 k1 hr hFV hsz
  rcases hs with ⟨rfl, rfl⟩ | ⟨rfl, rfl⟩
  · unfold truB
    go_enter Tryd.func88, Tryd.ntmps88
    go_wp2_with fail
    refine c1.mono ?_
    rintro e w2 ⟨rfl, hr2, hk2⟩
    have R2 := hide hr2
    have K2 := hide (K1.out.trans hk2)
    clear c1 hr2 hk2
    go_wp2
    go_ret
    refine ⟨K2.out, ?_⟩
    rw [HR2.out]
    refine ⟨rfl, [⟨1, 1, 1, ⟨#[]⟩, ⟨#[]⟩⟩], rfl, ?_⟩
    rw [lst_len, HSZ.out]
    exact R2.out
  · unfold falB
    go_enter Tryd.func88, Tryd.ntmps88
    go_wp2_with fail
    refine c1.mono ?_
    rintro e w2 ⟨rfl, hr2, hk2⟩
    have R2 := hide hr2
    have K2 := hide (K1.out.trans hk2)
    clear c1 hr2 hk2
    go_wp2
    go_ret
    refine ⟨K2.out, ?_⟩
    rw [HR2.out]
    refine ⟨rfl, [⟨1, 0, 1, ⟨#[]⟩, ⟨#[]⟩⟩], rfl, ?_⟩
    rw [lst_len, HSZ.out]
    exact R2.out
theorem name_len {s : Bs} (h : nameB s = true) : s.length ≤ 24 := by
  unfold nameB at h
  rw [Bool.and_eq_true] at h
  have h2 := h.2
  unfold wordB at h2
  cases s with
  | nil => simp
  | cons c r =>
    simp only [Bool.and_eq_true, decide_eq_true_eq] at h2
    exact h2.1
theorem nil_beq (S : ByteArray) (s : Bs) (h : ¬ S = ⟨s.toArray⟩) : (S.toList == s) = false := by
  rw [ByteArray.toList_eq, beq_eq_false_iff_ne]
  intro e
  exact h (text_eq.2 e)
set_option maxRecDepth 100000 in
set_option maxHeartbeats 3200000 in
theorem word_other {B R P1 P2 : Nat} {tv : Value} {toks : List Tv} {f : Nat} (IH : RowOk B R P1 P2 tv toks f) (HFD : FieldOk B R tv toks) (hl : toks.length ≤ 3000000000000) (S : ByteArray) (h1 : S.data.toList ≠ truB) (h2 : S.data.toList ≠ falB) (at_ op : Nat) (ps : List Pv) (fa fc : Int) (w : World) (res : Res) (ho : op ≤ 200) (hp : ps.length ≤ at_) (hlt : at_ < toks.length) (h : RS B R tv toks at_ op ps fa fc w) (he : Env B R P1 P2 w)
    (hr : wordR f op S.data.toList (lst toks (at_ + 1)) = some res) : Calls Tryd.prog 88 #[.pointer (some ⟨R, 0, none⟩), .string S, fvOf P1 P2] w (PostR B R tv toks op ps fa fc res w) := by
  have q1 : (S.toList == [84, 82, 85, 69]) = false := nil_beq S truB (fun e => h1 (text_eq.1 e))
  have q2 : (S.toList == [70, 65, 76, 83, 69]) = false := nil_beq S falB (fun e => h2 (text_eq.1 e))
  unfold wordR at hr
  rw [if_neg h1, if_neg h2] at hr
  have HRR := hide hr
  have HH := hide h
  have HE := hide he
  have hle := h.le
  have ix : Hid (∀ (k : Nat) (h : k < 3) (W : World), (Instr.index 108 (.agg cvTab.toArray) (.int .i64 (k : Int))).run Tryd.prog W = .ok (.agg #[.string ⟨(cvRows[k]'h).1.toArray⟩, .int .i64 (cvRows[k]'h).2]) W) := cv_idx
  obtain ⟨KT, hT⟩ : ∃ KT, Value.agg cvTab.toArray = KT := ⟨_, rfl⟩
  rw [hT] at ix
  have hg := he.glo.conv
  obtain ⟨FV, hFV⟩ : ∃ FV, FV = fvOf P1 P2 := ⟨_, rfl⟩
  have HFV := hide hFV
  rw [← hFV]
  have i3 : (at_ : Int) ≤ 3000000000000 := by omega
  have i4 : (0 : Int) ≤ (at_ : Int) := by omega
  clear h he hr hFV h1 h2
  go_enter Tryd.func88, Tryd.ntmps88
  go_wp2_with ((with_reducible refine at_load (ty := 108) ?_); go_must (refine load_tab (b := 1) (t := cvTab) (T := KT) rfl hg hT Tryd.underlying108 rfl size108 ?_))
  clear hg hT
  go_loopw [35] (fun i wr => ∃ k : Nat, k ≤ 3 ∧ i = .int .i64 (k : Int) ∧ Hid (Below w.heap.size w wr ∧ ∀ j (hj : j < 3), j < k → S.data.toList ≠ (cvRows[j]'hj).1)) (fun i _ => 3 - (intOf i).toNat)
  case atStart => exact ⟨0, by omega, rfl, Below.refl _ _, fun j hj h => absurd h (Nat.not_lt_zero _)⟩
  case round =>
    obtain ⟨k, hk, rfl, hh⟩ := hrel
    have HB := hide hh.out.1
    have HN := hide hh.out.2
    have zr := HB.out.size
    clear hh
    by_cases hlt3 : k < 3
    · have x0 := ix.out k hlt3
      have i1 : (k : Int) < 3 := by omega
      have HTO := hide (@cv_to S.data.toList k hlt3)
      have HNX : Hid (S.data.toList ≠ (cvRows[k]'hlt3).1 → ∀ j (hj : j < 3), j < k + 1 → S.data.toList ≠ (cvRows[j]'hj).1) := fun hne j hj hjk => by
        rcases Nat.lt_or_ge j k with h | h
        · exact HN.out j hj h
        · have : j = k := by omega
          subst this
          exact hne
      generalize (cvRows[k]'hlt3) = r at *
      obtain ⟨r0, r1⟩ := r
      simp only [] at x0 HTO HNX
      obtain ⟨u, hu⟩ : ∃ u : ByteArray, u = ⟨r0.toArray⟩ := ⟨_, rfl⟩
      rw [← hu] at x0
      have HU := hide hu
      have bt := beq_text u S
      have b1 := HB.out.alloc zr (.cells #[.string u, .int .i64 r1] 88)
      have B1 := hide b1
      clear ix hu HN
      by_cases hus : u = S
      · have hb : (u.toList == S.toList) = true := by rw [bt]; exact decide_eq_true hus
        have hS : S.data.toList = r0 := by rw [← hus, HU.out]
        obtain ⟨_, _, ht, ht0⟩ := HTO.out hS
        have hr := HRR.out
        rw [if_pos ht0, ht] at hr
        have r2 := HH.out.below b1
        obtain ⟨d1, _, d3⟩ := r2.cells
        obtain ⟨r3, k3⟩ := r2.step hlt
        have E3 := (HE.out.below b1 hle).keep k3
        cases hz : within [40] [41] op (lst toks (at_ + 1)) (rd f (.row 0) (op + 1)) with
        | none => rw [hz] at hr; cases hr
        | some z =>
          rw [hz] at hr
          have c2 := within_any IH hl [40] [41] (at_ + 1) op ps fa fc _ z ho (by omega) r3 E3 hz
          rw [← HFV.out] at c2
          have HZ := hide hz
          have HR2 := hide hr
          have K3 := hide ((Keep.of_below (R := R) b1 hle).trans k3)
          have hRne : wr.heap.size ≠ R := by have := HH.out.hB; omega
          have hcv : ((wr.alloc (.cells #[.string u, .int .i64 r1] 88)).setCell ⟨R, 1, none⟩ (.int .i64 ((at_ : Int) + 1))).heap[wr.heap.size]? = some (.cells #[.string u, .int .i64 r1] 88) := by
            rw [Below.heap_setCell _ _ _ _ (by show wr.heap.size ≠ R; exact hRne)]
            exact heap_alloc_new wr _
          have hRl : R < wr.heap.size := by have := HH.out.hB; omega
          have d1' : wr.cell? ⟨R, 1, none⟩ = some (.int .i64 (at_ : Int)) := by
            have := d1
            rw [World.cell?_alloc_lt _ _ _ hRl] at this
            exact this
          have d3' : wr.frozen? ⟨R, 1, none⟩ = false := by
            have := d3 1
            rw [World.frozen?_of_block (Lib.alloc_old wr _ R hRl)] at this
            exact this
          rw [World.setCell_alloc_past _ R 1 _ hRl] at c2 hcv K3
          have HCV := hide hcv
          clear hr hz r2 r3 k3 E3 hcv b1 HTO HNX HRR hS ht ht0 bt hus d1 d3
          go_wp2_with fail
          refine c2.mono ?_
          rintro e w3 ⟨hk3, hp3⟩
          have K4 := hide (K3.out.trans hk3)
          have e3 := hk3.others wr.heap.size _ HCV.out hRne (fun c fz h => by cases h)
          have g1 : w3.cell? ⟨wr.heap.size, 1, none⟩ = some (.int .i64 r1) := by rw [Lib.cell_of_heap e3]; rfl
          clear c2 hk3 e3 d1' d3'
          cases z with
          | error z =>
            obtain ⟨kk, c⟩ := z
            simp only [] at hp3
            obtain ⟨rfl, at2, op2, ps2, hr3⟩ := hp3
            have R3 := hide hr3
            have HR3 : Hid (res = .error (kk, c)) := (Option.some.inj HR2.out).symm
            clear hr3
            go_wp2
            go_ret
            refine ⟨K4.out, ?_⟩
            rw [HR3.out]
            exact ⟨rfl, at2, op2, ps2, R3.out⟩
          | ok z =>
            obtain ⟨x, rr⟩ := z
            simp only [] at hp3
            obtain ⟨rfl, xs, hxs, hr3⟩ := hp3
            have hpp := within_parts HZ.out
            have hxl : xs.length = x.length := by rw [← hxs, List.length_map]
            have c4 := add_any hr3 (by rw [List.length_append]; omega) ⟨6, 0, r1, ⟨#[]⟩, ⟨#[]⟩⟩
            have HR3 : Hid (res = .ok (x ++ [toP r1], rr)) := (Option.some.inj HR2.out).symm
            have HXS := hide hxs
            simp only [] at c4
            clear hr3 hxs hxl hpp
            go_wp2_with fail
            refine c4.mono ?_
            rintro e w4 ⟨rfl, hr4, hk4⟩
            have R4 := hide hr4
            have K5 := hide (K4.out.trans hk4)
            clear c4 hr4 hk4
            go_wp2
            go_ret
            refine ⟨K5.out, ?_⟩
            rw [HR3.out]
            refine ⟨rfl, xs ++ [⟨6, 0, r1, ⟨#[]⟩, ⟨#[]⟩⟩], by rw [List.map_append, HXS.out]; rfl, ?_⟩
            rw [← List.append_assoc]
            exact R4.out
      · have hb : (u.toList == S.toList) = false := by rw [bt]; exact decide_eq_false hus
        have HNN := hide (HNX.out (fun e => hus (by rw [HU.out]; exact (text_eq.2 e).symm)))
        clear HTO HNX bt hus b1
        go_wp2
        go_roundw
        case rel => exact ⟨k + 1, by omega, by go_num, B1.out, HNN.out⟩
        case measure => simp [intOf]; omega
    · obtain rfl : k = 3 := by omega
      have ht0 : toT S.data.toList = 0 := cv_not (fun k hk3 => HN.out k hk3 hk3)
      have hr := HRR.out
      rw [if_neg (fun q => q ht0)] at hr
      have c1 := eName_any S.data.toList wr (HE.out.glo.below HB.out (by have := HE.out.glo.lt; omega)).kw
      rw [text_back] at c1
      have r1 := HH.out.below HB.out
      have E1 := HE.out.below HB.out hle
      have hle1 := r1.le
      have K1 := hide (Keep.of_below (R := R) HB.out hle)
      cases hnm : nameB S.data.toList with
      | false =>
        rw [hnm] at c1
        rw [hnm, if_neg (by decide), lst_len] at hr
        have HR2 : Hid (res = .error (toks.length - at_, 60)) := by
          show _ = _
          rw [← Option.some.inj hr]
          congr 2
          omega
        have c2 := refuse_any r1
        clear hr r1 E1 HRR ix HN ht0
        go_wp2_with fail
        refine c1.mono ?_
        rintro e w2 ⟨rfl, hw2⟩
        subst hw2
        go_wp2_with fail
        refine c2.mono ?_
        rintro e w3 ⟨rfl, hr3, hk3⟩
        have R3 := hide hr3
        have K3 := hide (K1.out.trans hk3)
        clear c1 c2 hr3 hk3
        go_wp2
        go_ret
        refine ⟨K3.out, ?_⟩
        rw [HR2.out]
        refine ⟨rfl, at_, op, ps, ?_⟩
        rw [show ((toks.length - (toks.length - at_) : Nat) : Int) = (at_ : Int) from by omega]
        exact R3.out
      | true =>
        rw [hnm] at c1
        rw [hnm, if_pos rfl] at hr
        have hsz : S.size ≤ 140737488355000 := by
          rw [← text_len]
          have h24 := name_len hnm
          omega
        have c2 := sclone_any S hsz wr
        have c3 := fun W h1 h2 => variable_any IH HFD hl S at_ op ps fa fc W res ho hp hlt h1 h2 hr
        rw [← HFV.out] at c3
        have R1 := hide r1
        have HE1 := hide E1
        clear hr r1 E1 HRR ix HN ht0 hsz hnm
        go_wp2_with fail
        refine c1.mono ?_
        rintro e w2 ⟨rfl, hw2⟩
        subst hw2
        go_wp2_with fail
        refine c2.mono ?_
        rintro e w3 ⟨rfl, hb3⟩
        have K3 := hide (K1.out.trans (Keep.of_below (R := R) hb3 hle1))
        have c4 := c3 _ (R1.out.below hb3) (HE1.out.below hb3 hle1)
        clear c1 c2 c3 hb3
        go_wp2_with fail
        refine c4.mono ?_
        rintro e w4 ⟨hk4, hp4⟩
        have K4 := hide (K3.out.trans hk4)
        have HP4 := hide hp4
        have hret : ∃ bb, e = .returned (.bool bb) := by
          revert hp4
          cases res with
          | error z => obtain ⟨_, _⟩ := z; rintro ⟨h, _⟩; exact ⟨_, h⟩
          | ok z => obtain ⟨_, _⟩ := z; rintro ⟨h, _⟩; exact ⟨_, h⟩
        obtain ⟨bb, rfl⟩ := hret
        clear c4 hk4 hp4
        go_wp2
        go_ret
        exact ⟨K4.out, HP4.out⟩
end Go.Proofs.YtkicbmjjbnblfaaDoor
