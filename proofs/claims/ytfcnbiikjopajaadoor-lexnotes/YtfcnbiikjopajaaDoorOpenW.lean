/- The contract of the law's open. -/
import Derived.Test.YtfcnbiikjopajaaDoorLstP
namespace Go.Proofs.YtfcnbiikjopajaaDoor
open Go.RowKit
theorem open_snoc (x : UInt8) : ∀ m : Bs, openL (m ++ [x]) = if x = 10 then false else (decide (x = 47) && decide (m.getLast? = some 47)) || openL m
  | [] => by
    show ((decide (x = 47) && (decide (([] : Bs).head? = some 47) && decide ((10 : UInt8) ∉ ([] : Bs)))) || openL []) = _
    simp [openL]
  | a :: m => by
    have ih := open_snoc x m
    show ((decide (a = 47) && (decide ((m ++ [x]).head? = some 47) && decide ((10 : UInt8) ∉ m ++ [x]))) || openL (m ++ [x])) = _
    rw [ih]
    by_cases hx : x = 10
    · subst hx
      simp
    · rw [if_neg hx, if_neg hx]
      match m with
      | [] =>
        by_cases h47 : x = 47
        · subst h47; simp [openL]
        · simp [openL, h47]
      | b :: q =>
        have e1 : decide (((b :: q) ++ [x]).head? = some 47) = decide ((b :: q).head? = some 47) := rfl
        have e2 : decide ((10 : UInt8) ∉ (b :: q) ++ [x]) = decide ((10 : UInt8) ∉ b :: q) := by
          apply decide_eq_decide.2
          rw [List.mem_append, List.mem_singleton]
          exact ⟨fun h h2 => h (.inl h2), fun h h2 => h2.elim h (fun e => hx e.symm)⟩
        rw [e1, e2, show (a :: b :: q).getLast? = (b :: q).getLast? from rfl]
        show _ = (_ || ((decide (a = 47) && (decide ((b :: q).head? = some 47) && decide ((10 : UInt8) ∉ b :: q))) || openL (b :: q)))
        cases (decide (x = 47) && decide ((b :: q).getLast? = some 47)) <;> cases (decide (a = 47) && (decide ((b :: q).head? = some 47) && decide ((10 : UInt8) ∉ b :: q))) <;> rfl
theorem open_take (l : Bs) (i : Nat) (x y : UInt8) (hx : l[i + 1]? = some x) (hy : l[i]? = some y) : openL (l.take (i + 2)) = if x = 10 then false else (decide (x = 47) && decide (y = 47)) || openL (l.take (i + 1)) := by
  rw [List.take_add_one, hx]
  show openL (l.take (i + 1) ++ [x]) = _
  rw [open_snoc, List.take_add_one, hy]
  simp
theorem open_one (l : Bs) (i : Nat) (h : i ≤ 1) : openL (l.take i) = false := by
  match i, l with
  | 0, l => rfl
  | 1, [] => rfl
  | 1, a :: r => simp [openL]
set_option maxRecDepth 100000 in
set_option maxHeartbeats 1600000 in
theorem open_any (l : Bs) (hl : l.length ≤ 140737488351232) (w : World) : Calls Tryd.prog 20 #[.string ⟨l.toArray⟩] w fun e w' => e = .returned (.bool (openL l)) ∧ Below w.heap.size w w' := by
  have hsz := list_size l
  have HX : Hid (∀ (i : Nat) c, l[i]? = some c → ∀ W : World, (Instr.index 9 (.string ⟨l.toArray⟩) (.int .i64 (i : Int))).run Tryd.prog W = .ok (.int .u8 (c.toNat : Int)) W) := fun i c h W => run_idx ⟨l.toArray⟩ i c h W
  have s0 : ((⟨l.toArray⟩ : ByteArray).size : Int) ≤ 140737488351232 := by omega
  have HSZ := hide hsz
  clear hl hsz
  generalize (⟨l.toArray⟩ : ByteArray) = s at *
  go_enter Tryd.func20, Tryd.ntmps20
  go_wp2_with fail
  go_loopw [3] (fun i wr => ∃ k : Nat, k ≤ s.size ∧ i = .int .i64 ((k : Int) - 1) ∧ Hid (openL l = openL (l.take k) ∧ Below w.heap.size w wr)) (fun i _ => ((intOf i) + 1).toNat)
  case atStart => exact ⟨s.size, Nat.le_refl _, rfl, by rw [HSZ.out, List.take_length], Below.refl _ _⟩
  case round =>
    obtain ⟨k, hk, rfl, hh⟩ := hrel
    have HB := hide hh.out.2
    match k, hk, hh with
    | 0, hk, hh =>
      have HR := hide (hh.out.1.trans (open_one l 0 (by decide)))
      clear hh
      go_wp2
      go_ret
      exact ⟨by rw [HR.out]; rfl, HB.out⟩
    | 1, hk, hh =>
      have HR := hide (hh.out.1.trans (open_one l 1 (by decide)))
      clear hh
      go_wp2
      go_ret
      exact ⟨by rw [HR.out]; rfl, HB.out⟩
    | j + 2, hk, hh =>
      have e0 : ((j + 2 : Nat) : Int) - 1 = ((j + 1 : Nat) : Int) := by omega
      rw [e0]
      obtain ⟨x, hx⟩ : ∃ x, l[j + 1]? = some x := ⟨_, List.getElem?_eq_getElem (by rw [← HSZ.out]; omega)⟩
      obtain ⟨y, hy⟩ : ∃ y, l[j]? = some y := ⟨_, List.getElem?_eq_getElem (by rw [← HSZ.out]; omega)⟩
      have ix := HX.out _ _ hx
      have iy := HX.out _ _ hy
      have ho := hide (hh.out.1.trans (open_take l j x y hx hy))
      have e1 : ((j + 1 : Nat) : Int) - 1 = (j : Int) := by omega
      have i0 : (0 : Int) < ((j + 1 : Nat) : Int) := by omega
      have i1 : ((j + 1 : Nat) : Int) < (s.size : Int) := by omega
      have j0 : (0 : Int) ≤ (j : Int) := by omega
      obtain ⟨i, hi⟩ : ∃ i : Int, i = ((j + 1 : Nat) : Int) := ⟨_, rfl⟩
      rw [← hi] at e1 i0 i1 ix ⊢
      replace hi := hide hi
      clear hh hx hy
      by_cases h10 : x = 10
      · have HR : Hid (openL l = false) := by show _ = _; rw [ho.out, if_pos h10]
        subst h10
        simp only [show ((10 : UInt8).toNat : Int) = 10 from rfl] at ix
        clear ho
        go_wp2
        go_ret
        exact ⟨by rw [HR.out]; rfl, HB.out⟩
      · have g10 : ((x.toNat : Int) != 10) = true := by rw [bne_iff_ne]; exact fun e => h10 (UInt8.toNat_inj.1 (by show x.toNat = 10; omega))
        have ho2 : Hid (openL l = ((decide (x = 47) && decide (y = 47)) || openL (l.take (j + 1)))) := by show _ = _; rw [ho.out, if_neg h10]
        clear ho
        by_cases h47 : x = 47
        · subst h47
          simp only [show ((47 : UInt8).toNat : Int) = 47 from rfl] at ix
          clear g10
          by_cases g47 : y = 47
          · have HR : Hid (openL l = true) := by show _ = _; rw [ho2.out, g47]; rfl
            subst g47
            simp only [show ((47 : UInt8).toNat : Int) = 47 from rfl] at iy
            clear ho2
            go_wp2
            go_ret
            exact ⟨by rw [HR.out]; rfl, HB.out⟩
          · have HR : Hid (openL l = openL (l.take (j + 1))) := by show _ = _; rw [ho2.out, decide_eq_false g47, Bool.and_false, Bool.false_or]
            have f47 : ((y.toNat : Int) == 47) = false := by rw [beq_eq_false_iff_ne]; exact fun e => g47 (UInt8.toNat_inj.1 (by show y.toNat = 47; omega))
            clear ho2
            go_wp2
            go_roundw
            case rel => exact ⟨j + 1, by omega, by have := hi.out; go_num, HR.out, HB.out⟩
            case measure => simp only [intOf]; omega
        · have HR : Hid (openL l = openL (l.take (j + 1))) := by show _ = _; rw [ho2.out, decide_eq_false h47, Bool.false_and, Bool.false_or]
          have f47 : ((x.toNat : Int) == 47) = false := by rw [beq_eq_false_iff_ne]; exact fun e => h47 (UInt8.toNat_inj.1 (by show x.toNat = 47; omega))
          clear ho2
          go_wp2
          go_roundw
          case rel => exact ⟨j + 1, by omega, by have := hi.out; go_num, HR.out, HB.out⟩
          case measure => simp only [intOf]; omega
end Go.Proofs.YtfcnbiikjopajaaDoor
