/- code: namesArray. -/
import Derived.Test.YtmbgcpmapaedcaaDoorCkA
namespace Go.Proofs.YtmbgcpmapaedcaaDoor
open Go.RowKit
theorem arr_get {ty : List Int} {a b k : Nat} (hk : k < b) : ((ty.drop a).take b)[k]? = ty[a + k]? := by
  rw [List.getElem?_take_of_lt hk, List.getElem?_drop]
theorem all_next {l : List Int} {k : Nat} {x y : Int} (h : (l.take k).all (fun t => t == y) = true) (hx : l[k]? = some x) (e : x = y) : (l.take (k + 1)).all (fun t => t == y) = true := by
  rw [List.take_add_one, List.all_append, h, hx]; simp [e]
theorem all_fail {l : List Int} {k : Nat} {x y : Int} (hx : l[k]? = some x) (e : x ≠ y) : l.all (fun t => t == y) = false := by
  rw [List.all_eq_false]
  obtain ⟨h, rfl⟩ := List.getElem?_eq_some_iff.1 hx
  exact ⟨_, List.getElem_mem h, by simpa using e⟩
set_option maxRecDepth 100000 in
set_option maxHeartbeats 3200000 in
theorem array_any (nm ta fv iv ov cv : Value) (ty : List Int) (i : Ins) (w : World) (hT : ILst w ta ty) (hcap : ∀ a n c, ta = .slice a n c → n ≤ c) (hn : ty.length ≤ 1024) : Calls Tryd.prog 22 #[.agg #[nm, ta, fv, iv, ov, cv], inA i] w fun e w' => e = .returned (.bool (arrB ty i.a i.b)) ∧ Below w.heap.size w w' := by
  obtain ⟨op, a, b, n⟩ := i
  have E : Hid (arrB ty a b = (decide (1 ≤ b) && (decide (b ≤ 32) && (fromB ty.length a b && ((ty.drop a.toNat).take b.toNat).all fun t => t == ty.getD a.toNat 0)))) := rfl
  have c1 : Hid (∀ W, Below w.heap.size w W → Calls Tryd.prog 45 #[.agg #[nm, ta, fv, iv, ov, cv], .int .i64 a, .int .i64 b] W fun e w' => e = .returned (.bool (fromB ty.length a b)) ∧ Below W.heap.size W w') := fun W hb => thereFrom_any nm ta fv iv ov cv ty a b W (hT.on hb) hn
  show Calls Tryd.prog 22 #[.agg #[nm, ta, fv, iv, ov, cv], inA ⟨op, a, b, n⟩] w fun e w' => e = .returned (.bool (arrB ty a b)) ∧ Below w.heap.size w w'
  unfold inA
  have HB2 : Hid (∀ A B, Below w.heap.size w ((w.alloc A).alloc B)) := bw2 w
  obtain ⟨aa, ab, aoff, acap, rfl, hA, hI⟩ := hT
  have hcp := hcap _ _ _ rfl
  clear hcap
  by_cases h1 : 1 ≤ b
  · by_cases h2 : b ≤ 32
    · cases hf : fromB ty.length a b with
      | false =>
        rw [hf] at c1
        have HE : Hid (arrB ty a b = false) := by show _ = _; rw [E.out, hf]; simp
        clear E hA hI hf
        generalize ty.length = m at *
        go_enter Tryd.func22, Tryd.ntmps22
        go_wp2_with (go_at_call 45; refine (c1.out _ (HB2.out _ _)).mono ?_; rintro e w1 ⟨rfl, b1⟩; have B1 := hide ((HB2.out _ _).trans (b1.mono (by simp; omega))); clear b1)
        go_ret
        exact ⟨ret_b HE.out.symm, B1.out⟩
      | true =>
        rw [hf] at c1
        have hh : 0 ≤ a ∧ a < (ty.length : Int) ∧ b ≤ (ty.length : Int) - a := by
          unfold fromB inB at hf
          simp only [Bool.and_eq_true, decide_eq_true_eq] at hf
          omega
        obtain ⟨p, rfl⟩ : ∃ p : Nat, a = (p : Int) := ⟨a.toNat, by omega⟩
        obtain ⟨q, rfl⟩ : ∃ q : Nat, b = (q : Int) := ⟨b.toNat, by omega⟩
        have HE : Hid (arrB ty (p : Int) (q : Int) = ((ty.drop p).take q).all fun t => t == ty.getD p 0) := by
          show _ = _
          rw [E.out, decide_eq_true h1, decide_eq_true h2, hf]; rfl
        obtain ⟨T0, hT0⟩ : ∃ T0, ty[p]? = some T0 := ⟨_, List.getElem?_eq_getElem (by omega)⟩
        have hD : ty.getD p 0 = T0 := by rw [List.getD_eq_getElem?_getD, hT0]; rfl
        rw [hD] at HE
        obtain ⟨hab, rfl⟩ := hA (by omega)
        have cT := hI p T0 hT0
        have HG : Hid (∀ k, k < q → ∃ x, ((ty.drop p).take q)[k]? = some x ∧ w.cell? ⟨ab, aoff + p + k, none⟩ = some (.int .i64 x)) := fun k hk => by
          obtain ⟨x, hx⟩ : ∃ x, ty[p + k]? = some x := ⟨_, List.getElem?_eq_getElem (by omega)⟩
          exact ⟨x, by rw [arr_get hk]; exact hx, by rw [Nat.add_assoc]; exact hI _ _ hx⟩
        have HQ : Hid (((ty.drop p).take q).take q = (ty.drop p).take q) := by show _ = _; rw [List.take_take, Nat.min_self]
        obtain ⟨hh0, hh1, hh2⟩ := hh
        clear E hA hI hf hD hT0
        generalize (ty.drop p).take q = L at *
        generalize ty.length = m at *
        have q0 : (0 : Int) ≤ (q : Int) := by omega
        have n1 : (m : Int) ≤ 1024 := by omega
        go_enter Tryd.func22, Tryd.ntmps22
        go_wp2_with (go_at_call 45; refine (c1.out _ (HB2.out _ _)).mono ?_; rintro e w1 ⟨rfl, b1⟩; have B1 := hide ((HB2.out _ _).trans (b1.mono (by simp; omega))); have c26 := (b1.cell (p := ⟨w.heap.size, 1, none⟩) (by simp; omega)); have c41 := (b1.cell (p := ⟨w.heap.size + 1, 1, none⟩) (by simp)); have c42 := (b1.cell (p := ⟨w.heap.size + 1, 2, none⟩) (by simp)); clear b1; simp [go_sem] at c26 c41 c42)
        have HC26 := hide c26
        have HC41 := hide c41
        have HCT := hide cT
        clear c26 c41 c42 cT
        go_loopw [35] (fun i wr => ∃ k : Nat, k ≤ q ∧ i = .int .i64 (k : Int) ∧ Hid ((L.take k).all (fun t => t == T0) = true ∧ wr = w1)) (fun i _ => q - (intOf i).toNat)
        case atStart => exact ⟨0, by omega, rfl, rfl, rfl⟩
        case round =>
          obtain ⟨k, hk, rfl, hh⟩ := hrel
          obtain ⟨ha, hw⟩ := hh.out
          subst hw
          have HA := hide ha
          clear hh ha
          have k0 : (0 : Int) ≤ (k : Int) := by omega
          by_cases hlt : k < q
          · have j1 : (k : Int) < (q : Int) := by omega
            obtain ⟨x, hx, hcx⟩ := HG.out k hlt
            have c1' := (B1.out.cell (p := ⟨ab, aoff + p + k, none⟩) hab).trans hcx
            have c2' := (B1.out.cell (p := ⟨ab, aoff + p, none⟩) hab).trans HCT.out
            have c3' := HC26.out
            have c4' := HC41.out
            by_cases he : x = T0
            · have HR := hide (all_next HA.out hx he)
              have hb : (x == T0) = true := by simpa using he
              subst he
              clear hx hcx
              go_wp2
              go_roundw
              case rel => exact ⟨k + 1, by omega, by go_num, HR.out, by trivial⟩
              case measure => simp [intOf]; omega
            · have HR := hide (all_fail hx he)
              have hb : (x == T0) = false := by simpa using he
              have hb2 : ¬ x = T0 := he
              clear hx hcx
              go_wp2
              go_ret
              exact ⟨ret_b (by rw [HE.out, HR.out]), B1.out⟩
          · obtain rfl : k = q := by omega
            have HR : Hid (L.all (fun t => t == T0) = true) := by
              have := HA.out
              rw [HQ.out] at this
              exact this
            go_wp2
            go_ret
            exact ⟨ret_b (by rw [HE.out, HR.out]), B1.out⟩
    · have HE : Hid (arrB ty a b = false) := by show _ = _; rw [E.out, decide_eq_false h2]; simp
      clear E hA hI c1
      generalize ty.length = m at *
      go_enter Tryd.func22, Tryd.ntmps22
      go_wp2
      go_ret
      exact ⟨ret_b HE.out.symm, HB2.out _ _⟩
  · have HE : Hid (arrB ty a b = false) := by show _ = _; rw [E.out, decide_eq_false h1]; simp
    clear E hA hI c1
    generalize ty.length = m at *
    go_enter Tryd.func22, Tryd.ntmps22
    go_wp2
    go_ret
    exact ⟨ret_b HE.out.symm, HB2.out _ _⟩
end Go.Proofs.YtmbgcpmapaedcaaDoor
