/- The contract of the reader's within, over that of the rows' closure. | The contract of strings.Clone. | The contract of the reader's variable, over those of field and of the rows' closure. | The contract of the reader's word, over those of field and of the rows' closure. -/
import Derived.Test.YtkicbmjjbnblfaaGreatDoorRpA
import Derived.Lib.UnsafeStr
import Derived.Lib.BufferWrite
import Derived.OwnWalk
namespace Go.Proofs.YtkicbmjjbnblfaaGreatDoor
open Go.RowKit
/-- parts are not more than the tokens that they were read of -/
theorem Reads.parts {m : Md} {d : Nat} {l r : List Tk} {x : List Pt} (h : Reads m d l x r) : x.length + r.length ≤ l.length := by
  induction h with
  | top _ _ ih => exact ih
  | row _ _ _ ih1 ih2 => rw [List.length_append]; omega
  | stop _ => simp
  | more _ _ _ ih1 ih2 => rw [List.length_append, List.length_cons, List.length_cons]; omega
  | bare _ _ ih => exact ih
  | sign _ _ _ ih => rw [List.length_append, List.length_cons]; simp; omega
  | num _ => simp; omega
  | tru _ _ => simp; omega
  | fal _ _ => simp; omega
  | conv _ _ _ _ _ _ ih => rw [List.length_append]; simp at ih ⊢; omega
  | idx _ _ _ _ _ _ ih => rw [List.length_append]; simp at ih ⊢; omega
  | fld _ _ _ _ => simp; omega
  | var _ _ _ => simp; omega
  | par _ _ _ _ ih => simp at ih ⊢; omega
theorem within_none {a b : Bs} {d : Nat} {t : Tk} {q : List Tk} {go : List Tk → Option Res} {res : Res} (h : within a b d (t :: q) go = some res) (ha : isSign a t = true) (hd : ¬ 200 ≤ d) : ∃ z, go q = some z := by
  unfold within at h
  simp only [] at h
  rw [if_pos ha, if_neg hd] at h
  cases hg : go q with
  | none => rw [hg] at h; cases h
  | some z => exact ⟨z, rfl⟩
theorem RS.cells {B R : Nat} {tv : Value} {toks : List Tv} {at_ op : Nat} {ps : List Pv} {fa fc : Int} {w : World} (h : RS B R tv toks at_ op ps fa fc w) : w.cell? ⟨R, 1, none⟩ = some (.int .i64 (at_ : Int)) ∧ w.cell? ⟨R, 2, none⟩ = some (.int .i64 (op : Int)) ∧ ∀ j, w.frozen? ⟨R, j, none⟩ = false := by
  obtain ⟨pv, hrow, _⟩ := h.row
  exact ⟨by rw [Lib.cell_of_heap hrow]; rfl, by rw [Lib.cell_of_heap hrow]; rfl, fun j => Lib.frozen_of_heap hrow j⟩
/-- one token on -/
theorem RS.step {B R : Nat} {tv : Value} {toks : List Tv} {at_ op : Nat} {ps : List Pv} {fa fc : Int} {w : World} (h : RS B R tv toks at_ op ps fa fc w) (hlt : at_ < toks.length) : RS B R tv toks (at_ + 1) op ps fa fc (w.setCell ⟨R, 1, none⟩ (.int .i64 ((at_ : Int) + 1))) ∧ Keep B R w (w.setCell ⟨R, 1, none⟩ (.int .i64 ((at_ : Int) + 1))) := by
  have hk := (Keep.refl B R w).setCell (p := ⟨R, 1, none⟩) rfl (.int .i64 ((at_ : Int) + 1))
  obtain ⟨pv, hrow, hown⟩ := h.row
  exact ⟨h.turn hk hlt ⟨pv, put_at hrow _, ownsRow_setCell_below hown (a := ⟨R, 1, none⟩) h.hB _⟩, hk⟩
/-- one less open -/
theorem RS.shut {B R : Nat} {tv : Value} {toks : List Tv} {at_ op : Nat} {ps : List Pv} {fa fc : Int} {w : World} (h : RS B R tv toks at_ (op + 1) ps fa fc w) : RS B R tv toks at_ op ps fa fc (w.setCell ⟨R, 2, none⟩ (.int .i64 (op : Int))) ∧ Keep B R w (w.setCell ⟨R, 2, none⟩ (.int .i64 (op : Int))) := by
  have hk := (Keep.refl B R w).setCell (p := ⟨R, 2, none⟩) rfl (.int .i64 (op : Int))
  obtain ⟨pv, hrow, hown⟩ := h.row
  exact ⟨h.turn hk h.here ⟨pv, put_op hrow _, ownsRow_setCell_below hown (a := ⟨R, 2, none⟩) h.hB _⟩, hk⟩
set_option maxRecDepth 100000 in
set_option maxHeartbeats 3200000 in
theorem within_any {B R P1 P2 : Nat} {tv : Value} {toks : List Tv} {f : Nat} (IH : RowOk B R P1 P2 tv toks f) (hl : toks.length ≤ 3000000000000) (a b : Bs) (at_ op : Nat) (ps : List Pv) (fa fc : Int) (w : World) (res : Res) (ho : op ≤ 200) (hp : ps.length ≤ at_) (h : RS B R tv toks at_ op ps fa fc w) (he : Env B R P1 P2 w)
    (hr : within a b op (lst toks at_) (rd f (.row 0) (op + 1)) = some res) : Calls Tryz.prog 113 #[.pointer (some ⟨R, 0, none⟩), .string ⟨a.toArray⟩, .string ⟨b.toArray⟩, fvOf P1 P2] w (PostR B R tv toks op ps fa fc res w) := by
  have c1 := is_any h (by omega) 3 ⟨a.toArray⟩
  have HH := hide h
  have HE := hide he
  have hle := h.le
  have hhere := h.here
  have HS := hide (sign_is a (tokAt toks at_))
  obtain ⟨sa, hsa⟩ : ∃ sa : ByteArray, sa = ⟨a.toArray⟩ := ⟨_, rfl⟩
  obtain ⟨sb, hsb⟩ : ∃ sb : ByteArray, sb = ⟨b.toArray⟩ := ⟨_, rfl⟩
  rw [← hsa] at c1 HS
  rw [← hsa, ← hsb]
  have HSB := hide hsb
  clear h he hsa hsb
  unfold fvOf
  cases hq : decide ((tokAt toks at_).k = 3 ∧ (tokAt toks at_).s = sa) with
  | false =>
    rw [hq] at c1 HS
    have HR : Hid (res = .error (toks.length - at_, 60)) := by
      show _ = _
      rcases Nat.lt_or_ge at_ toks.length with hlt | hge
      · rw [lst_cons hlt] at hr
        unfold within at hr
        simp only [] at hr
        rw [HS.out, if_neg (by decide), lst_len] at hr
        rw [← Option.some.inj hr]
        congr 2
        omega
      · rw [lst_nil hge] at hr
        rw [← Option.some.inj hr]
        congr 2
        omega
    clear hr hq
    go_enter Tryz.func113, Tryz.ntmps113
    go_wp2_with fail
    refine c1.mono ?_
    rintro e w1 ⟨rfl, hb1⟩
    have c2 := refuse_any (HH.out.below hb1)
    have K1 := hide (Keep.of_below (R := R) hb1 hle)
    clear c1 hb1
    go_wp2_with fail
    refine c2.mono ?_
    rintro e w2 ⟨rfl, hr2, hk2⟩
    have R2 := hide hr2
    have K2 := hide (K1.out.trans hk2)
    clear c2 hr2 hk2
    go_wp2
    go_ret
    refine ⟨K2.out, ?_⟩
    rw [HR.out]
    refine ⟨rfl, at_, op, ps, ?_⟩
    rw [show ((toks.length - (toks.length - at_) : Nat) : Int) = (at_ : Int) from by omega]
    exact R2.out
  | true =>
    rw [hq] at c1 HS
    have hlt : at_ < toks.length := by
      rcases Nat.lt_or_ge at_ toks.length with hlt | hge
      · exact hlt
      · have := (of_decide_eq_true hq).1
        rw [tok_none hge] at this
        exact absurd this (by decide)
    rw [lst_cons hlt] at hr
    by_cases h2 : op = 200
    · have HR : Hid (res = .error (toks.length - at_, 2)) := by
        show _ = _
        unfold within at hr
        simp only [] at hr
        rw [HS.out, if_pos rfl, if_pos (by omega), lst_len] at hr
        rw [← Option.some.inj hr]
        congr 2
        omega
      clear hr hq
      go_enter Tryz.func113, Tryz.ntmps113
      go_wp2_with fail
      refine c1.mono ?_
      rintro e w1 ⟨rfl, hb1⟩
      have c2 := open_full (HH.out.below hb1) h2
      have K1 := hide (Keep.of_below (R := R) hb1 hle)
      clear c1 hb1 h2
      go_wp2_with fail
      refine c2.mono ?_
      rintro e w2 ⟨rfl, hr2, hk2⟩
      have R2 := hide hr2
      have K2 := hide (K1.out.trans hk2)
      clear c2 hr2 hk2
      go_wp2
      go_ret
      refine ⟨K2.out, ?_⟩
      rw [HR.out]
      refine ⟨rfl, at_, op, ps, ?_⟩
      rw [show ((toks.length - (toks.length - at_) : Nat) : Int) = (at_ : Int) from by omega]
      exact R2.out
    · obtain ⟨z, hz⟩ := within_none hr HS.out (by omega)
      have hr' : within a b op (tkV (tokAt toks at_) :: lst toks (at_ + 1)) (rd f (.row 0) (op + 1)) = some res := hr
      unfold within at hr'
      simp only [] at hr'
      rw [HS.out, if_pos rfl, if_neg (by omega), hz] at hr'
      have HR := hide hr'
      have HZ := hide hz
      clear hr hr' hz hq
      go_enter Tryz.func113, Tryz.ntmps113
      go_wp2_with fail
      refine c1.mono ?_
      rintro e w1 ⟨rfl, hb1⟩
      have c2 := open_more (HH.out.below hb1) (by omega) (by omega) hlt
      have E1 := hide (HE.out.below hb1 hle)
      have K1 := hide (Keep.of_below (R := R) hb1 hle)
      clear c1 hb1
      go_wp2_with fail
      refine c2.mono ?_
      rintro e w2 ⟨rfl, hr2, hk2⟩
      have c3 := IH 0 (at_ + 1) (op + 1) ps fa fc w2 z (by omega) (by omega) (by omega) hr2 (E1.out.keep hk2) HZ.out
      have E2 := hide (E1.out.keep hk2)
      have K2 := hide (K1.out.trans hk2)
      clear c2 hr2 hk2 E1 K1
      have c3' : Calls Tryz.prog 87 #[.int .i64 0, .pointer (some ⟨P1, 0, none⟩), .pointer (some ⟨P2, 0, none⟩)] w2 (PostR B R tv toks (op + 1) ps fa fc z w2) := c3
      clear c3
      go_wp2_with fail
      refine c3'.mono ?_
      rintro e w3 ⟨hk3, hp3⟩
      have K3 := hide (K2.out.trans hk3)
      have E3 := hide (E2.out.keep hk3)
      clear c3' hk3 E2 K2
      cases z with
      | error z =>
        obtain ⟨k, c⟩ := z
        simp only [] at hp3
        obtain ⟨rfl, at2, op2, ps2, hr3⟩ := hp3
        have R3 := hide hr3
        have HR2 : Hid (res = .error (k, c)) := (Option.some.inj HR.out).symm
        clear hr3
        go_wp2
        go_ret
        refine ⟨K3.out, ?_⟩
        rw [HR2.out]
        exact ⟨rfl, at2, op2, ps2, R3.out⟩
      | ok z =>
        obtain ⟨x, r⟩ := z
        simp only [] at hp3
        obtain ⟨rfl, xs, hxs, hr3⟩ := hp3
        obtain ⟨hrest, hrl⟩ := rest_lst HZ.out hlt
        have hle3 := hr3.le
        have hh3 := hr3.here
        have HXS := hide hxs
        have c4 := is_any hr3 (by omega) 3 sb
        have R3 := hide hr3
        have HS2 := hide (sign_is b (tokAt toks (toks.length - r.length)))
        rw [← HSB.out] at HS2
        clear hr3 hxs
        cases hq : decide ((tokAt toks (toks.length - r.length)).k = 3 ∧ (tokAt toks (toks.length - r.length)).s = sb) with
        | false =>
          rw [hq] at c4 HS2
          have HR2 : Hid (res = .error (r.length, 60)) := by
            show _ = _
            have h1 := HR.out
            simp only [] at h1
            rcases Nat.lt_or_ge (toks.length - r.length) toks.length with hlt2 | hge
            · rw [hrest, lst_cons hlt2] at h1
              simp only [] at h1
              rw [HS2.out, if_neg (by decide), lst_len] at h1
              rw [← Option.some.inj h1]
              congr 2
              omega
            · rw [hrest, lst_nil hge] at h1
              rw [← Option.some.inj h1]
              congr 2
              omega
          clear hq
          go_wp2_with fail
          refine c4.mono ?_
          rintro e w4 ⟨rfl, hb4⟩
          have c5 := refuse_any (R3.out.below hb4)
          have K4 := hide (K3.out.trans (Keep.of_below (R := R) hb4 hle3))
          clear c4 hb4
          go_wp2_with fail
          refine c5.mono ?_
          rintro e w5 ⟨rfl, hr5, hk5⟩
          have R5 := hide hr5
          have K5 := hide (K4.out.trans hk5)
          clear c5 hr5 hk5
          go_wp2
          go_ret
          refine ⟨K5.out, ?_⟩
          rw [HR2.out]
          exact ⟨rfl, _, _, _, R5.out⟩
        | true =>
          rw [hq] at c4 HS2
          have hlt2 : toks.length - r.length < toks.length := by
            rcases Nat.lt_or_ge (toks.length - r.length) toks.length with h | h
            · exact h
            · have := (of_decide_eq_true hq).1
              rw [tok_none h] at this
              exact absurd this (by decide)
          have HR2 : Hid (res = .ok (x, lst toks (toks.length - r.length + 1))) := by
            show _ = _
            have h1 := HR.out
            simp only [] at h1
            rw [hrest, lst_cons hlt2] at h1
            simp only [] at h1
            rw [HS2.out, if_pos rfl] at h1
            exact (Option.some.inj h1).symm
          clear hq
          obtain ⟨A, hAA⟩ : ∃ A, A = toks.length - r.length := ⟨_, rfl⟩
          rw [← hAA] at R3 HR2 hlt2
          clear hrest hrl hh3 HR HZ hAA HS2
          go_wp2_with fail
          refine c4.mono ?_
          rintro e w4 ⟨rfl, hb4⟩
          have r4 := R3.out.below hb4
          have K4 := hide (K3.out.trans (Keep.of_below (R := R) hb4 hle3))
          obtain ⟨d1, d2, d3⟩ := r4.cells
          obtain ⟨r5, k5⟩ := r4.shut
          obtain ⟨r6, k6⟩ := r5.step hlt2
          have R6 := hide r6
          have K6 := hide (K4.out.trans (k5.trans k6))
          have hAl : A ≤ 3000000000000 := by omega
          have i3 : (A : Int) ≤ 3000000000000 := by omega
          have i4 : (0 : Int) ≤ (A : Int) := by omega
          have i5 : (op : Int) ≤ 200 := by omega
          have i6 : (0 : Int) ≤ (op : Int) := by omega
          have d2' : w4.cell? ⟨R, 2, none⟩ = some (.int .i64 ((op : Int) + 1)) := d2
          clear c4 hb4 r4 r5 k5 r6 k6 d2
          go_wp2
          go_ret
          refine ⟨K6.out, ?_⟩
          rw [HR2.out]
          refine ⟨rfl, xs, HXS.out, ?_⟩
          rw [lst_len, show toks.length - (toks.length - (A + 1)) = A + 1 from by omega]
          exact R6.out
end Go.Proofs.YtkicbmjjbnblfaaGreatDoor
namespace Go.Proofs.YtkicbmjjbnblfaaGreatDoor
open Go.RowKit
def encB (b : UInt8) : Value := .int .u8 (b.toNat : Int)
def encK (f : List UInt8) : Array Value := (f.map encB).toArray
theorem encK_size (f : List UInt8) : (encK f).size = f.length := by simp [encK]
theorem encK_get (f : List UInt8) (k : Nat) (x : UInt8) (h : f[k]? = some x) : (encK f)[k]? = some (.int .u8 (x.toNat : Int)) := by
  unfold encK
  rw [List.getElem?_toArray, List.getElem?_map, h]; rfl
theorem addr_add (g j : Nat) : (⟨g, 0, none⟩ : Addr).add j = ⟨g, j, none⟩ := by unfold Addr.add; split <;> simp_all
theorem in5 : (Tryz.prog.info? 5).map (fun i => (i.zero, i.size, i.bytes)) = some (some (.int .u8 0), 1, 1) := by kernel_rfl
theorem z5 : (Tryz.prog.info? 5).map (·.size) = some 1 := by kernel_rfl
theorem c5w : Tryz.prog.cellsOf 5 = 1 := by kernel_rfl
theorem heap_setRow_same (w : World) (g : Nat) (old cs : Array Value) (t : TypeId) (hg : w.heap[g]? = some (.cells old t (0, 0))) : (w.setRow g cs).heap[g]? = some (.cells cs t (0, 0)) := setRow_heap w g old cs t _ hg
theorem below_setRow1 (w : World) (B g : Nat) (cs : Array Value) (h : B ≤ g) : Below B w (w.setRow g cs) :=
  ⟨rfl, rfl, rfl, by simp, fun k hk => by
    simp only [World.setRow, Array.getElem?_modify]
    rw [if_neg (by omega)]⟩
set_option maxRecDepth 100000 in
set_option maxHeartbeats 1600000 in
theorem clone_any (s : ByteArray) (hn : s.size ≤ 140737488355000) (w : World) :
    Calls Tryz.prog 44 #[.string s] w fun e w' => e = .returned (.string s) ∧ Below w.heap.size w w' := by
  by_cases h0 : s.size = 0
  · obtain rfl : s = ⟨#[]⟩ := ByteArray.ext (Array.eq_empty_of_size_eq_zero h0)
    go_enter Tryz.func44, Tryz.ntmps44
    go_wp2
    go_ret
    exact ⟨rfl, Below.refl _ _⟩
  · obtain ⟨i0, hi, hz0, hz1, hz2⟩ := info_parts in5
    have hne : s.data.toList ≠ [] := fun e => h0 (by rw [← text_len, e]; rfl)
    have hmk : ∀ u : World, (Instr.makeSlice 89 (.int .i64 (s.size : Int)) (.int .i64 (s.size : Int))).run Tryz.prog u =
        .ok (.slice (some ⟨u.heap.size, 0, none⟩) s.size s.size) (u.alloc (.cells (madeCells #[.int .u8 0] s.size) 5)) := fun u => by
      have h := run_make (P := Tryz.prog) u 89 5 i0 (.int .u8 0) Tryz.underlying89 hi hz0 .i64 .i64 (s.size : Int) (s.size : Int) (by omega) (by omega) (by rw [hz2]; omega) (by omega)
      simpa [hz1, Value.cells] using h
    have hMs : (madeCells #[.int .u8 0] s.size).size = s.size := by simp [madeCells]
    generalize madeCells #[.int .u8 0] s.size = M at *
    have hcp := Lib.run_copy_row_string (P := Tryz.prog) (w.alloc (.cells M 5)) 89 9 3 5 w.heap.size 0 s.size s.size s M 5 Tryz.underlying89 z5 (heap_alloc_new w _) (Nat.le_refl _) (by omega)
    have hY : (M.toList.take 0 ++ Lib.byteCells s.data.toList ++ M.toList.drop (0 + s.size)).toArray = encK s.data.toList := by
      rw [List.drop_of_length_le (by rw [Array.length_toList]; omega)]
      unfold encK Lib.byteCells
      simp
      exact fun _ _ => rfl
    rw [hY] at hcp
    have hgY := heap_setRow_same (w.alloc (.cells M 5)) w.heap.size M (encK s.data.toList) 5 (heap_alloc_new w _)
    have hB : Below w.heap.size w ((w.alloc (.cells M 5)).setRow w.heap.size (encK s.data.toList)) := ((Below.refl _ _).alloc (Nat.le_refl _) _).trans (below_setRow1 _ _ _ _ (by omega))
    have hUS := Lib.run_unsafeString_row (P := Tryz.prog) ((w.alloc (.cells M 5)).setRow w.heap.size (encK s.data.toList)) 90 3 9 5 Tryz.underlying90 c5w w.heap.size (encK s.data.toList).size (by unfold World.shape?; rw [hgY]) s.data.toList hne (by rw [encK_size]; exact Nat.le_refl _) (by rw [text_len]; omega)
      (fun j x hx => by rw [addr_add, cell_of_row _ _ _ _ _ _ hgY]; exact encK_get _ _ _ hx)
    rw [text_len] at hUS
    have hF : Hid (Below w.heap.size w (((w.alloc (.cells M 5)).setRow w.heap.size (encK s.data.toList)).freeze ⟨w.heap.size, 0, none⟩ s.size)) := Lib.below_freeze hB (p := ⟨w.heap.size, 0, none⟩) (Nat.le_refl _) _
    clear hY hMs hB hi hne hgY
    have i1 : ((s.size : Int) == 0) = false := by rw [beq_eq_false_iff_ne]; omega
    have i2 : (0 : Int) < (s.size : Int) := by omega
    generalize (w.alloc (.cells M 5)).setRow w.heap.size (encK s.data.toList) = W2 at *
    go_enter Tryz.func44, Tryz.ntmps44
    go_wp2
    go_ret
    exact ⟨rfl, hF⟩
set_option maxHeartbeats 800000 in
theorem sclone_any (s : ByteArray) (hn : s.size ≤ 140737488355000) (w : World) :
    Calls Tryz.prog 20 #[.string s] w fun e w' => e = .returned (.string s) ∧ Below w.heap.size w w' := by
  go_enter Tryz.func20, Tryz.ntmps20
  go_wp2_with fail
  refine (clone_any s hn _).mono ?_
  rintro e w1 ⟨rfl, hb1⟩
  have b1 : Hid (Below w.heap.size w w1) := hb1
  clear hb1
  go_wp2
  go_ret
  exact ⟨rfl, b1⟩
end Go.Proofs.YtkicbmjjbnblfaaGreatDoor
namespace Go.Proofs.YtkicbmjjbnblfaaGreatDoor
open Go.RowKit
/-- a field is any word (R2: what the chapter does not refuse may be) -/
def FieldOk (B R : Nat) (tv : Value) (toks : List Tv) : Prop := ∀ (at_ op : Nat) (ps : List Pv) (fa fc : Int) (w : World) (name : ByteArray), ps.length ≤ at_ → RS B R tv toks at_ op ps fa fc w →
  Calls Tryz.prog 122 #[.pointer (some ⟨R, 0, none⟩), .string name] w fun e w' => Keep B R w w' ∧ ((at_ < toks.length ∧ (tokAt toks at_).k = 1 ∧ e = .returned (.bool true) ∧ RS B R tv toks (at_ + 1) op (ps ++ [⟨4, 0, 0, name, (tokAt toks at_).s⟩]) fa fc w') ∨ (¬ (at_ < toks.length ∧ (tokAt toks at_).k = 1) ∧ e = .returned (.bool false) ∧ RS B R tv toks at_ op ps (at_ : Int) 60 w'))
theorem within_parts {a b : Bs} {f d i : Nat} {toks : List Tv} {x : List Pt} {r : List Tk} (h : within a b d (lst toks i) (rd f (.row 0) (d + 1)) = some (.ok (x, r))) : x.length + r.length + 1 ≤ toks.length - i := by
  obtain ⟨t, q, v, h1, _, _, h2, _⟩ := within_ok h
  have h3 := (rd_reads h2).parts
  have h4 := congrArg List.length h1
  rw [lst_len, List.length_cons] at h4
  rw [List.length_cons] at h3
  omega
theorem named_sign {s : Bs} {toks : List Tv} {i : Nat} {br : Option Res} (h : isSign [91] (tkV (tokAt toks i)) = true) (hlt : i < toks.length) : named s (lst toks i) br = addP (idxP s) br := by
  rw [lst_cons hlt]
  unfold named
  simp only []
  rw [if_pos h]
set_option maxRecDepth 100000 in
set_option maxHeartbeats 3200000 in
theorem variable_any {B R P1 P2 : Nat} {tv : Value} {toks : List Tv} {f : Nat} (IH : RowOk B R P1 P2 tv toks f) (HFD : FieldOk B R tv toks) (hl : toks.length ≤ 3000000000000) (sn : ByteArray) (at_ op : Nat) (ps : List Pv) (fa fc : Int) (w : World) (res : Res) (ho : op ≤ 200) (hp : ps.length ≤ at_) (hlt : at_ < toks.length) (h : RS B R tv toks at_ op ps fa fc w) (he : Env B R P1 P2 w)
    (hr : named sn.data.toList (lst toks (at_ + 1)) (within [91] [93] op (lst toks (at_ + 1)) (rd f (.row 0) (op + 1))) = some res) : Calls Tryz.prog 120 #[.pointer (some ⟨R, 0, none⟩), .string sn, fvOf P1 P2] w (PostR B R tv toks op ps fa fc res w) := by
  obtain ⟨d1, _, d3⟩ := h.cells
  obtain ⟨r1, k1⟩ := h.step hlt
  have E1 := hide (he.keep k1)
  have c1 := is_any r1 (by omega) 3 ⟨#[91]⟩
  have HS := hide (sign_is [91] (tokAt toks (at_ + 1)))
  have HR1 := hide r1
  have HK1 := hide k1
  have hle1 := r1.le
  have hhere := r1.here
  have i3 : (at_ : Int) ≤ 3000000000000 := by omega
  have i4 : (0 : Int) ≤ (at_ : Int) := by omega
  obtain ⟨FV, hFV⟩ : ∃ FV, FV = fvOf P1 P2 := ⟨_, rfl⟩
  have HFV := hide hFV
  rw [← hFV]
  clear h he r1 k1 hFV
  cases hq : decide ((tokAt toks (at_ + 1)).k = 3 ∧ (tokAt toks (at_ + 1)).s = ⟨#[91]⟩) with
  | true =>
    rw [hq] at c1
    have hs : isSign [91] (tkV (tokAt toks (at_ + 1))) = true := by rw [HS.out]; exact hq
    have hlt2 : at_ + 1 < toks.length := by
      rcases Nat.lt_or_ge (at_ + 1) toks.length with h | h
      · exact h
      · have := (of_decide_eq_true hq).1
        rw [tok_none h] at this
        exact absurd this (by decide)
    rw [named_sign hs hlt2] at hr
    cases hz : within [91] [93] op (lst toks (at_ + 1)) (rd f (.row 0) (op + 1)) with
    | none => rw [hz] at hr; cases hr
    | some z =>
      rw [hz] at hr
      have c2 := fun W h1 h2 => within_any IH hl [91] [93] (at_ + 1) op ps fa fc W z ho (by omega) h1 h2 hz
      rw [← HFV.out] at c2
      have HZ := hide hz
      have HRR := hide hr
      clear hr hz hq hs
      go_enter Tryz.func120, Tryz.ntmps120
      go_wp2_with fail
      refine c1.mono ?_
      rintro e w2 ⟨rfl, hb2⟩
      have K2 := hide (HK1.out.trans (Keep.of_below (R := R) hb2 hle1))
      have c3 := c2 _ (HR1.out.below hb2) (E1.out.below hb2 hle1)
      clear c1 c2 hb2
      go_wp2_with fail
      refine c3.mono ?_
      rintro e w3 ⟨hk3, hp3⟩
      have K3 := hide (K2.out.trans hk3)
      clear c3 hk3
      cases z with
      | error z =>
        obtain ⟨k, c⟩ := z
        simp only [] at hp3
        obtain ⟨rfl, at2, op2, ps2, hr3⟩ := hp3
        have R3 := hide hr3
        have HR2 : Hid (res = .error (k, c)) := (Option.some.inj HRR.out).symm
        clear hr3
        go_wp2
        go_ret
        refine ⟨K3.out, ?_⟩
        rw [HR2.out]
        exact ⟨rfl, at2, op2, ps2, R3.out⟩
      | ok z =>
        obtain ⟨x, r⟩ := z
        simp only [] at hp3
        obtain ⟨rfl, xs, hxs, hr3⟩ := hp3
        have hpp := within_parts HZ.out
        have hxl : xs.length = x.length := by rw [← hxs, List.length_map]
        have c4 := add_any hr3 (by rw [List.length_append]; omega) ⟨3, 0, 0, sn, ⟨#[]⟩⟩
        have HR2 : Hid (res = .ok (x ++ [idxP sn.data.toList], r)) := (Option.some.inj HRR.out).symm
        have HXS := hide hxs
        simp only [] at c4
        clear hr3 hxs hxl hpp
        go_wp2_with fail
        refine c4.mono ?_
        rintro e w4 ⟨rfl, hr4, hk4⟩
        have R4 := hide hr4
        have K4 := hide (K3.out.trans hk4)
        clear c4 hr4 hk4
        go_wp2
        go_ret
        refine ⟨K4.out, ?_⟩
        rw [HR2.out]
        refine ⟨rfl, xs ++ [⟨3, 0, 0, sn, ⟨#[]⟩⟩], by rw [List.map_append, HXS.out]; rfl, ?_⟩
        rw [← List.append_assoc]
        exact R4.out
  | false =>
    rw [hq] at c1
    have HS1 : Hid (isSign [91] (tkV (tokAt toks (at_ + 1))) = false) := by show _ = _; rw [HS.out]; exact hq
    have HS2 := hide (sign_is [46] (tokAt toks (at_ + 1)))
    have c2 := fun W h => @is_any B R tv toks (at_ + 1) op ps fa fc W h (by omega) 3 ⟨#[46]⟩
    clear hq HS
    cases hq : decide ((tokAt toks (at_ + 1)).k = 3 ∧ (tokAt toks (at_ + 1)).s = ⟨#[46]⟩) with
    | true =>
      rw [hq] at c2
      have HS3 : Hid (isSign [46] (tkV (tokAt toks (at_ + 1))) = true) := by show _ = _; rw [HS2.out]; exact hq
      have hlt2 : at_ + 1 < toks.length := by
        rcases Nat.lt_or_ge (at_ + 1) toks.length with h | h
        · exact h
        · have := (of_decide_eq_true hq).1
          rw [tok_none h] at this
          exact absurd this (by decide)
      have HRR : Hid ((match lst toks (at_ + 2) with
        | [] => some (.error (0, 60))
        | v :: r' => if v.kind = 1 then some (.ok ([fldP sn.data.toList v.s], r')) else some (.error (r'.length + 1, 60))) = some res) := by
        show _ = _
        rw [lst_cons hlt2] at hr
        unfold named at hr
        simp only [] at hr
        rw [HS1.out, HS3.out, if_neg (by decide), if_pos rfl] at hr
        exact hr
      clear hr hq HS2
      go_enter Tryz.func120, Tryz.ntmps120
      go_wp2_with fail
      refine c1.mono ?_
      rintro e w2 ⟨rfl, hb2⟩
      have K2 := hide (HK1.out.trans (Keep.of_below (R := R) hb2 hle1))
      have r2 := HR1.out.below hb2
      have hle2 := r2.le
      have c3 := c2 _ r2
      have R2 := hide r2
      clear c1 c2 hb2 r2
      go_wp2_with fail
      refine c3.mono ?_
      rintro e w3 ⟨rfl, hb3⟩
      have K3 := hide (K2.out.trans (Keep.of_below (R := R) hb3 hle2))
      have r3 := R2.out.below hb3
      obtain ⟨f1, _, f3⟩ := r3.cells
      obtain ⟨r4, k4⟩ := r3.step hlt2
      have c5 := HFD (at_ + 1 + 1) op ps fa fc _ sn (by omega) r4
      have K4 := hide (K3.out.trans k4)
      have f1' : w3.cell? ⟨R, 1, none⟩ = some (.int .i64 ((at_ : Int) + 1)) := f1
      have hc5 : ((at_ + 1 : Nat) : Int) + 1 = (at_ : Int) + 1 + 1 := by omega
      rw [hc5] at c5 K4
      clear c3 hb3 r3 r4 k4 f1
      go_wp2_with fail
      refine c5.mono ?_
      rintro e w5 ⟨hk5, hcase⟩
      have K5 := hide (K4.out.trans hk5)
      clear c5 hk5
      rcases hcase with ⟨hlt3, hkk, rfl, hr5⟩ | ⟨hn, rfl, hr5⟩
      · have HR2 : Hid (res = .ok ([fldP sn.data.toList (tokAt toks (at_ + 1 + 1)).s.data.toList], lst toks (at_ + 1 + 1 + 1))) := by
          show _ = _
          have h1 := HRR.out
          rw [show at_ + 2 = at_ + 1 + 1 from rfl, lst_cons hlt3] at h1
          simp only [] at h1
          rw [if_pos (show (tkV (tokAt toks (at_ + 1 + 1))).kind = 1 from hkk)] at h1
          exact (Option.some.inj h1).symm
        have R5 := hide hr5
        clear hr5 hkk
        go_wp2
        go_ret
        refine ⟨K5.out, ?_⟩
        rw [HR2.out]
        refine ⟨rfl, [⟨4, 0, 0, sn, (tokAt toks (at_ + 1 + 1)).s⟩], rfl, ?_⟩
        rw [lst_len, show toks.length - (toks.length - (at_ + 1 + 1 + 1)) = at_ + 1 + 1 + 1 from by omega]
        exact R5.out
      · have HR2 : Hid (res = .error (toks.length - (at_ + 1 + 1), 60)) := by
          show _ = _
          have h1 := HRR.out
          rcases Nat.lt_or_ge (at_ + 1 + 1) toks.length with hlt3 | hge
          · rw [show at_ + 2 = at_ + 1 + 1 from rfl, lst_cons hlt3] at h1
            simp only [] at h1
            rw [if_neg (show ¬ (tkV (tokAt toks (at_ + 1 + 1))).kind = 1 from fun q => hn ⟨hlt3, q⟩), lst_len] at h1
            rw [← Option.some.inj h1]
            congr 2
            omega
          · rw [show at_ + 2 = at_ + 1 + 1 from rfl, lst_nil hge] at h1
            rw [← Option.some.inj h1]
            congr 2
            omega
        have R5 := hide hr5
        clear hr5 hn
        go_wp2
        go_ret
        refine ⟨K5.out, ?_⟩
        rw [HR2.out]
        refine ⟨rfl, at_ + 1 + 1, op, ps, ?_⟩
        rw [show ((toks.length - (toks.length - (at_ + 1 + 1)) : Nat) : Int) = ((at_ + 1 + 1 : Nat) : Int) from by omega]
        exact R5.out
    | false =>
      rw [hq] at c2
      have HS3 : Hid (isSign [46] (tkV (tokAt toks (at_ + 1))) = false) := by show _ = _; rw [HS2.out]; exact hq
      have HR2 : Hid (res = .ok ([varP sn.data.toList], lst toks (at_ + 1))) := by
        show _ = _
        rcases Nat.lt_or_ge (at_ + 1) toks.length with hlt2 | hge
        · rw [lst_cons hlt2] at hr
          unfold named at hr
          simp only [] at hr
          rw [HS1.out, HS3.out, if_neg (by decide), if_neg (by decide)] at hr
          rw [lst_cons hlt2]
          exact (Option.some.inj hr).symm
        · rw [lst_nil hge] at hr
          rw [lst_nil hge]
          exact (Option.some.inj hr).symm
      clear hr hq HS2
      go_enter Tryz.func120, Tryz.ntmps120
      go_wp2_with fail
      refine c1.mono ?_
      rintro e w2 ⟨rfl, hb2⟩
      have K2 := hide (HK1.out.trans (Keep.of_below (R := R) hb2 hle1))
      have r2 := HR1.out.below hb2
      have hle2 := r2.le
      have c3 := c2 _ r2
      have R2 := hide r2
      clear c1 c2 hb2 r2
      go_wp2_with fail
      refine c3.mono ?_
      rintro e w3 ⟨rfl, hb3⟩
      have K3 := hide (K2.out.trans (Keep.of_below (R := R) hb3 hle2))
      have c5 := add_any (R2.out.below hb3) (by omega) ⟨2, 0, 0, sn, ⟨#[]⟩⟩
      simp only [] at c5
      clear c3 hb3
      go_wp2_with fail
      refine c5.mono ?_
      rintro e w5 ⟨rfl, hr5, hk5⟩
      have R5 := hide hr5
      have K5 := hide (K3.out.trans hk5)
      clear c5 hr5 hk5
      go_wp2
      go_ret
      refine ⟨K5.out, ?_⟩
      rw [HR2.out]
      refine ⟨rfl, [⟨2, 0, 0, sn, ⟨#[]⟩⟩], rfl, ?_⟩
      rw [lst_len, show toks.length - (toks.length - (at_ + 1)) = at_ + 1 from by omega]
      exact R5.out
end Go.Proofs.YtkicbmjjbnblfaaGreatDoor
namespace Go.Proofs.YtkicbmjjbnblfaaGreatDoor
open Go.RowKit
/-- what stands where a word begins a value -/
def wordR (f op : Nat) (s : Bs) (q : List Tk) : Option Res :=
  if s = truB then some (.ok ([numP 1 1], q))
  else if s = falB then some (.ok ([numP 0 1], q))
  else if toT s ≠ 0 then addP (toP (toT s)) (within [40] [41] op q (rd f (.row 0) (op + 1)))
  else if nameB s = true then named s q (within [91] [93] op q (rd f (.row 0) (op + 1)))
  else some (.error (q.length + 1, 60))
theorem pri_word {f op i : Nat} {toks : List Tv} (hlt : i < toks.length) (hk : (tokAt toks i).k = 1) : rd (f + 1) .pri op (lst toks i) = wordR f op (tokAt toks i).s.data.toList (lst toks (i + 1)) := by
  rw [lst_cons hlt]
  unfold rd wordR
  simp only []
  have h1 : (tkV (tokAt toks i)).kind = 1 := hk
  have h2 : (tkV (tokAt toks i)).s = (tokAt toks i).s.data.toList := rfl
  rw [if_neg (by rw [h1]; decide)]
  rw [h2, h1]
  simp only [true_and]
  have hw : ∀ go, within [40] [41] op (tkV (tokAt toks i) :: lst toks (i + 1)) go = some (.error ((lst toks (i + 1)).length + 1, 60)) := fun go => by
    unfold within
    simp only []
    rw [if_neg (by unfold isSign; rw [h1]; simp)]
  rw [hw]
theorem cv_to {s : Bs} {k : Nat} (hk : k < 3) (h : s = (cvRows[k]'hk).1) : s ≠ truB ∧ s ≠ falB ∧ toT s = (cvRows[k]'hk).2 ∧ toT s ≠ 0 := by
  have : k = 0 ∨ k = 1 ∨ k = 2 := by omega
  rcases this with rfl | rfl | rfl
  · subst h; exact (by decide : ([84, 79, 95, 73, 78, 84] : Bs) ≠ truB ∧ ([84, 79, 95, 73, 78, 84] : Bs) ≠ falB ∧ toT [84, 79, 95, 73, 78, 84] = 2 ∧ toT [84, 79, 95, 73, 78, 84] ≠ 0)
  · subst h; exact (by decide : ([84, 79, 95, 68, 73, 78, 84] : Bs) ≠ truB ∧ ([84, 79, 95, 68, 73, 78, 84] : Bs) ≠ falB ∧ toT [84, 79, 95, 68, 73, 78, 84] = 3 ∧ toT [84, 79, 95, 68, 73, 78, 84] ≠ 0)
  · subst h; exact (by decide : ([84, 79, 95, 84, 73, 77, 69] : Bs) ≠ truB ∧ ([84, 79, 95, 84, 73, 77, 69] : Bs) ≠ falB ∧ toT [84, 79, 95, 84, 73, 77, 69] = 4 ∧ toT [84, 79, 95, 84, 73, 77, 69] ≠ 0)
theorem cv_not {s : Bs} (h : ∀ k (hk : k < 3), s ≠ (cvRows[k]'hk).1) : toT s = 0 := by
  unfold toT
  have h0 : s ≠ [84, 79, 95, 73, 78, 84] := h 0 (by decide)
  have h1 : s ≠ [84, 79, 95, 68, 73, 78, 84] := h 1 (by decide)
  have h2 : s ≠ [84, 79, 95, 84, 73, 77, 69] := h 2 (by decide)
  rw [if_neg h0, if_neg h1, if_neg h2]
theorem text_eq {S : ByteArray} {s : Bs} : S = ⟨s.toArray⟩ ↔ S.data.toList = s := by
  constructor
  · intro h; rw [h]
  · intro h; rw [← h, text_back]
set_option maxRecDepth 100000 in
set_option maxHeartbeats 3200000 in
theorem word_num {B R P1 P2 : Nat} {tv : Value} {toks : List Tv} {f : Nat} (hl : toks.length ≤ 3000000000000) (n : Int) (s : Bs) (hs : (s = truB ∧ n = 1) ∨ (s = falB ∧ n = 0)) (at_ op : Nat) (ps : List Pv) (fa fc : Int) (w : World) (res : Res) (hp : ps.length ≤ at_) (hlt : at_ < toks.length) (h : RS B R tv toks at_ op ps fa fc w)
    (hr : wordR f op s (lst toks (at_ + 1)) = some res) : Calls Tryz.prog 112 #[.pointer (some ⟨R, 0, none⟩), .string ⟨s.toArray⟩, fvOf P1 P2] w (PostR B R tv toks op ps fa fc res w) := by
  have HR2 : Hid (res = .ok ([numP n 1], lst toks (at_ + 1))) := by
    show _ = _
    unfold wordR at hr
    rcases hs with ⟨rfl, rfl⟩ | ⟨rfl, rfl⟩
    · rw [if_pos rfl] at hr
      exact (Option.some.inj hr).symm
    · rw [if_neg (by decide), if_pos rfl] at hr
      exact (Option.some.inj hr).symm
  obtain ⟨d1, _, d3⟩ := h.cells
  obtain ⟨r1, k1⟩ := h.step hlt
  have c1 := add_any r1 (by omega) ⟨1, n, 1, ⟨#[]⟩, ⟨#[]⟩⟩
  simp only [] at c1
  have K1 := hide k1
  have i3 : (at_ : Int) ≤ 3000000000000 := by omega
  have i4 : (0 : Int) ≤ (at_ : Int) := by omega
  obtain ⟨FV, hFV⟩ : ∃ FV, FV = fvOf P1 P2 := ⟨_, rfl⟩
  rw [← hFV]
  have hsz : toks.length - (toks.length - (at_ + 1)) = at_ + 1 := by omega
  have HSZ := hide hsz
  clear h r1 k1 hr hFV hsz
  rcases hs with ⟨rfl, rfl⟩ | ⟨rfl, rfl⟩
  · unfold truB
    go_enter Tryz.func112, Tryz.ntmps112
    go_wp2_with fail
    refine c1.mono ?_
    rintro e w2 ⟨rfl, hr2, hk2⟩
    have R2 := hide hr2
    have K2 := hide (K1.out.trans hk2)
    clear c1 hr2 hk2
    go_wp2
    go_ret
    refine ⟨K2.out, ?_⟩
    rw [HR2.out]
    refine ⟨rfl, [⟨1, 1, 1, ⟨#[]⟩, ⟨#[]⟩⟩], rfl, ?_⟩
    rw [lst_len, HSZ.out]
    exact R2.out
  · unfold falB
    go_enter Tryz.func112, Tryz.ntmps112
    go_wp2_with fail
    refine c1.mono ?_
    rintro e w2 ⟨rfl, hr2, hk2⟩
    have R2 := hide hr2
    have K2 := hide (K1.out.trans hk2)
    clear c1 hr2 hk2
    go_wp2
    go_ret
    refine ⟨K2.out, ?_⟩
    rw [HR2.out]
    refine ⟨rfl, [⟨1, 0, 1, ⟨#[]⟩, ⟨#[]⟩⟩], rfl, ?_⟩
    rw [lst_len, HSZ.out]
    exact R2.out
theorem name_len {s : Bs} (h : nameB s = true) : s.length ≤ 24 := by
  unfold nameB at h
  rw [Bool.and_eq_true] at h
  have h2 := h.2
  unfold wordB at h2
  cases s with
  | nil => simp
  | cons c r =>
    simp only [Bool.and_eq_true, decide_eq_true_eq] at h2
    exact h2.1
theorem nil_beq (S : ByteArray) (s : Bs) (h : ¬ S = ⟨s.toArray⟩) : (S.toList == s) = false := by
  rw [ByteArray.toList_eq, beq_eq_false_iff_ne]
  intro e
  exact h (text_eq.2 e)
set_option maxRecDepth 100000 in
set_option maxHeartbeats 3200000 in
theorem word_other {B R P1 P2 : Nat} {tv : Value} {toks : List Tv} {f : Nat} (IH : RowOk B R P1 P2 tv toks f) (HFD : FieldOk B R tv toks) (hl : toks.length ≤ 3000000000000) (S : ByteArray) (h1 : S.data.toList ≠ truB) (h2 : S.data.toList ≠ falB) (at_ op : Nat) (ps : List Pv) (fa fc : Int) (w : World) (res : Res) (ho : op ≤ 200) (hp : ps.length ≤ at_) (hlt : at_ < toks.length) (h : RS B R tv toks at_ op ps fa fc w) (he : Env B R P1 P2 w)
    (hr : wordR f op S.data.toList (lst toks (at_ + 1)) = some res) : Calls Tryz.prog 112 #[.pointer (some ⟨R, 0, none⟩), .string S, fvOf P1 P2] w (PostR B R tv toks op ps fa fc res w) := by
  have q1 : (S.toList == [84, 82, 85, 69]) = false := nil_beq S truB (fun e => h1 (text_eq.1 e))
  have q2 : (S.toList == [70, 65, 76, 83, 69]) = false := nil_beq S falB (fun e => h2 (text_eq.1 e))
  unfold wordR at hr
  rw [if_neg h1, if_neg h2] at hr
  have HRR := hide hr
  have HH := hide h
  have HE := hide he
  have hle := h.le
  have ix : Hid (∀ (k : Nat) (h : k < 3) (W : World), (Instr.index 87 (.agg cvTab.toArray) (.int .i64 (k : Int))).run Tryz.prog W = .ok (.agg #[.string ⟨(cvRows[k]'h).1.toArray⟩, .int .i64 (cvRows[k]'h).2]) W) := cv_idx
  obtain ⟨KT, hT⟩ : ∃ KT, Value.agg cvTab.toArray = KT := ⟨_, rfl⟩
  rw [hT] at ix
  have hg := he.glo.conv
  obtain ⟨FV, hFV⟩ : ∃ FV, FV = fvOf P1 P2 := ⟨_, rfl⟩
  have HFV := hide hFV
  rw [← hFV]
  have i3 : (at_ : Int) ≤ 3000000000000 := by omega
  have i4 : (0 : Int) ≤ (at_ : Int) := by omega
  clear h he hr hFV h1 h2
  go_enter Tryz.func112, Tryz.ntmps112
  go_wp2_with ((with_reducible refine at_load (ty := 87) ?_); go_must (refine load_tab (b := 1) (t := cvTab) (T := KT) rfl hg hT Tryz.underlying87 rfl size87 ?_))
  clear hg hT
  go_loopw [35] (fun i wr => ∃ k : Nat, k ≤ 3 ∧ i = .int .i64 (k : Int) ∧ Hid (Below w.heap.size w wr ∧ ∀ j (hj : j < 3), j < k → S.data.toList ≠ (cvRows[j]'hj).1)) (fun i _ => 3 - (intOf i).toNat)
  case atStart => exact ⟨0, by omega, rfl, Below.refl _ _, fun j hj h => absurd h (Nat.not_lt_zero _)⟩
  case round =>
    obtain ⟨k, hk, rfl, hh⟩ := hrel
    have HB := hide hh.out.1
    have HN := hide hh.out.2
    have zr := HB.out.size
    clear hh
    by_cases hlt3 : k < 3
    · have x0 := ix.out k hlt3
      have i1 : (k : Int) < 3 := by omega
      have HTO := hide (@cv_to S.data.toList k hlt3)
      have HNX : Hid (S.data.toList ≠ (cvRows[k]'hlt3).1 → ∀ j (hj : j < 3), j < k + 1 → S.data.toList ≠ (cvRows[j]'hj).1) := fun hne j hj hjk => by
        rcases Nat.lt_or_ge j k with h | h
        · exact HN.out j hj h
        · have : j = k := by omega
          subst this
          exact hne
      generalize (cvRows[k]'hlt3) = r at *
      obtain ⟨r0, r1⟩ := r
      simp only [] at x0 HTO HNX
      obtain ⟨u, hu⟩ : ∃ u : ByteArray, u = ⟨r0.toArray⟩ := ⟨_, rfl⟩
      rw [← hu] at x0
      have HU := hide hu
      have bt := beq_text u S
      have b1 := HB.out.alloc zr (.cells #[.string u, .int .i64 r1] 63)
      have B1 := hide b1
      clear ix hu HN
      by_cases hus : u = S
      · have hb : (u.toList == S.toList) = true := by rw [bt]; exact decide_eq_true hus
        have hS : S.data.toList = r0 := by rw [← hus, HU.out]
        obtain ⟨_, _, ht, ht0⟩ := HTO.out hS
        have hr := HRR.out
        rw [if_pos ht0, ht] at hr
        have r2 := HH.out.below b1
        obtain ⟨d1, _, d3⟩ := r2.cells
        obtain ⟨r3, k3⟩ := r2.step hlt
        have E3 := (HE.out.below b1 hle).keep k3
        cases hz : within [40] [41] op (lst toks (at_ + 1)) (rd f (.row 0) (op + 1)) with
        | none => rw [hz] at hr; cases hr
        | some z =>
          rw [hz] at hr
          have c2 := within_any IH hl [40] [41] (at_ + 1) op ps fa fc _ z ho (by omega) r3 E3 hz
          rw [← HFV.out] at c2
          have HZ := hide hz
          have HR2 := hide hr
          have K3 := hide ((Keep.of_below (R := R) b1 hle).trans k3)
          have hRne : wr.heap.size ≠ R := by have := HH.out.hB; omega
          have hcv : ((wr.alloc (.cells #[.string u, .int .i64 r1] 63)).setCell ⟨R, 1, none⟩ (.int .i64 ((at_ : Int) + 1))).heap[wr.heap.size]? = some (.cells #[.string u, .int .i64 r1] 63) := by
            rw [Below.heap_setCell _ _ _ _ (by show wr.heap.size ≠ R; exact hRne)]
            exact heap_alloc_new wr _
          have hRl : R < wr.heap.size := by have := HH.out.hB; omega
          have d1' : wr.cell? ⟨R, 1, none⟩ = some (.int .i64 (at_ : Int)) := by
            have := d1
            rw [World.cell?_alloc_lt _ _ _ hRl] at this
            exact this
          have d3' : wr.frozen? ⟨R, 1, none⟩ = false := by
            have := d3 1
            rw [World.frozen?_of_block (Lib.alloc_old wr _ R hRl)] at this
            exact this
          rw [World.setCell_alloc_past _ R 1 _ hRl] at c2 hcv K3
          have HCV := hide hcv
          clear hr hz r2 r3 k3 E3 hcv b1 HTO HNX HRR hS ht ht0 bt hus d1 d3
          go_wp2_with fail
          refine c2.mono ?_
          rintro e w3 ⟨hk3, hp3⟩
          have K4 := hide (K3.out.trans hk3)
          have e3 := hk3.others wr.heap.size _ HCV.out hRne (fun c fz h => by cases h)
          have g1 : w3.cell? ⟨wr.heap.size, 1, none⟩ = some (.int .i64 r1) := by rw [Lib.cell_of_heap e3]; rfl
          clear c2 hk3 e3 d1' d3'
          cases z with
          | error z =>
            obtain ⟨kk, c⟩ := z
            simp only [] at hp3
            obtain ⟨rfl, at2, op2, ps2, hr3⟩ := hp3
            have R3 := hide hr3
            have HR3 : Hid (res = .error (kk, c)) := (Option.some.inj HR2.out).symm
            clear hr3
            go_wp2
            go_ret
            refine ⟨K4.out, ?_⟩
            rw [HR3.out]
            exact ⟨rfl, at2, op2, ps2, R3.out⟩
          | ok z =>
            obtain ⟨x, rr⟩ := z
            simp only [] at hp3
            obtain ⟨rfl, xs, hxs, hr3⟩ := hp3
            have hpp := within_parts HZ.out
            have hxl : xs.length = x.length := by rw [← hxs, List.length_map]
            have c4 := add_any hr3 (by rw [List.length_append]; omega) ⟨6, 0, r1, ⟨#[]⟩, ⟨#[]⟩⟩
            have HR3 : Hid (res = .ok (x ++ [toP r1], rr)) := (Option.some.inj HR2.out).symm
            have HXS := hide hxs
            simp only [] at c4
            clear hr3 hxs hxl hpp
            go_wp2_with fail
            refine c4.mono ?_
            rintro e w4 ⟨rfl, hr4, hk4⟩
            have R4 := hide hr4
            have K5 := hide (K4.out.trans hk4)
            clear c4 hr4 hk4
            go_wp2
            go_ret
            refine ⟨K5.out, ?_⟩
            rw [HR3.out]
            refine ⟨rfl, xs ++ [⟨6, 0, r1, ⟨#[]⟩, ⟨#[]⟩⟩], by rw [List.map_append, HXS.out]; rfl, ?_⟩
            rw [← List.append_assoc]
            exact R4.out
      · have hb : (u.toList == S.toList) = false := by rw [bt]; exact decide_eq_false hus
        have HNN := hide (HNX.out (fun e => hus (by rw [HU.out]; exact (text_eq.2 e).symm)))
        clear HTO HNX bt hus b1
        go_wp2
        go_roundw
        case rel => exact ⟨k + 1, by omega, by go_num, B1.out, HNN.out⟩
        case measure => simp [intOf]; omega
    · obtain rfl : k = 3 := by omega
      have ht0 : toT S.data.toList = 0 := cv_not (fun k hk3 => HN.out k hk3 hk3)
      have hr := HRR.out
      rw [if_neg (fun q => q ht0)] at hr
      have c1 := eName_any S.data.toList wr (HE.out.glo.below HB.out (by have := HE.out.glo.lt; omega)).kw
      rw [text_back] at c1
      have r1 := HH.out.below HB.out
      have E1 := HE.out.below HB.out hle
      have hle1 := r1.le
      have K1 := hide (Keep.of_below (R := R) HB.out hle)
      cases hnm : nameB S.data.toList with
      | false =>
        rw [hnm] at c1
        rw [hnm, if_neg (by decide), lst_len] at hr
        have HR2 : Hid (res = .error (toks.length - at_, 60)) := by
          show _ = _
          rw [← Option.some.inj hr]
          congr 2
          omega
        have c2 := refuse_any r1
        clear hr r1 E1 HRR ix HN ht0
        go_wp2_with fail
        refine c1.mono ?_
        rintro e w2 ⟨rfl, hw2⟩
        subst hw2
        go_wp2_with fail
        refine c2.mono ?_
        rintro e w3 ⟨rfl, hr3, hk3⟩
        have R3 := hide hr3
        have K3 := hide (K1.out.trans hk3)
        clear c1 c2 hr3 hk3
        go_wp2
        go_ret
        refine ⟨K3.out, ?_⟩
        rw [HR2.out]
        refine ⟨rfl, at_, op, ps, ?_⟩
        rw [show ((toks.length - (toks.length - at_) : Nat) : Int) = (at_ : Int) from by omega]
        exact R3.out
      | true =>
        rw [hnm] at c1
        rw [hnm, if_pos rfl] at hr
        have hsz : S.size ≤ 140737488355000 := by
          rw [← text_len]
          have h24 := name_len hnm
          omega
        have c2 := sclone_any S hsz wr
        have c3 := fun W h1 h2 => variable_any IH HFD hl S at_ op ps fa fc W res ho hp hlt h1 h2 hr
        rw [← HFV.out] at c3
        have R1 := hide r1
        have HE1 := hide E1
        clear hr r1 E1 HRR ix HN ht0 hsz hnm
        go_wp2_with fail
        refine c1.mono ?_
        rintro e w2 ⟨rfl, hw2⟩
        subst hw2
        go_wp2_with fail
        refine c2.mono ?_
        rintro e w3 ⟨rfl, hb3⟩
        have K3 := hide (K1.out.trans (Keep.of_below (R := R) hb3 hle1))
        have c4 := c3 _ (R1.out.below hb3) (HE1.out.below hb3 hle1)
        clear c1 c2 c3 hb3
        go_wp2_with fail
        refine c4.mono ?_
        rintro e w4 ⟨hk4, hp4⟩
        have K4 := hide (K3.out.trans hk4)
        have HP4 := hide hp4
        have hret : ∃ bb, e = .returned (.bool bb) := by
          revert hp4
          cases res with
          | error z => obtain ⟨_, _⟩ := z; rintro ⟨h, _⟩; exact ⟨_, h⟩
          | ok z => obtain ⟨_, _⟩ := z; rintro ⟨h, _⟩; exact ⟨_, h⟩
        obtain ⟨bb, rfl⟩ := hret
        clear c4 hk4 hp4
        go_wp2
        go_ret
        exact ⟨K4.out, HP4.out⟩
end Go.Proofs.YtkicbmjjbnblfaaGreatDoor
