/- verify: pass, an operation at a time. -/
import Derived.Test.YtlckedionmgjjaaDoorMg7
namespace Go.Proofs.YtlckedionmgjjaaDoor
open Go.RowKit
theorem ret_post {b : Nat} {o : Option Stk} {s0 : Option Stk} {r : Bool} {w w1 : World} (h : o = s0) (hr : s0.isSome = r) (ho : ∀ s', s0 = some s' → Ob w1 b 76 (encS s')) (hb : But b w w1) : Ending.returned (.bool r) = .returned (.bool o.isSome) ∧ (∀ s', o = some s' → Ob w1 b 76 (encS s')) ∧ But b w w1 := by subst h; subst hr; exact ⟨rfl, ho, hb⟩
theorem none_ob {b : Nat} {w1 : World} : ∀ s', (none : Option Stk) = some s' → Ob w1 b 76 (encS s') := fun _ h => by cases h
theorem some_ob {b : Nat} {w1 : World} {t : Stk} (h : Ob w1 b 76 (encS t)) : ∀ s', some t = some s' → Ob w1 b 76 (encS s') := fun _ e => by cases e; exact h
set_option maxRecDepth 100000 in
set_option maxHeartbeats 1600000 in
theorem pass_1 (b : Nat) (tv : Value) (ty : List Int) (m : Nat) (a c n : Int) (s : Stk) (w : World) (hS : Ob w b 76 (encS s)) (hs : OkS s) (_ : ∀ W, But b w W → ILst W tv ty) (_ : ∀ t ∈ ty, 1 ≤ t ∧ t ≤ 4) (hi : mayI ty m ⟨1, a, c, n⟩ = true) :
    Calls Tryd.prog 58 #[.pointer (some ⟨b, 0, none⟩), tv, .agg #[.int .i64 1, .int .i64 a, .int .i64 c, .int .i64 n]] w fun e w' => e = .returned (.bool (passS ty ⟨1, a, c, n⟩ s).isSome) ∧ (∀ s', passS ty ⟨1, a, c, n⟩ s = some s' → Ob w' b 76 (encS s')) ∧ But b w w' := by
  have HO : Hid (∀ A, Ob (w.alloc A) b 76 (encS s)) := fun A => hS.on ((Below.refl _ _).alloc (Nat.le_refl _) _) hS.lt
  have HB : Hid (∀ A, But b w (w.alloc A)) := fun A => (But.refl b w).alloc A
  have hlt := hS.lt
  have HN : Hid (w.heap.size ≠ b) := by show _ ≠ _; omega
  have HX : Hid (∀ A W k, But b (w.alloc A) W → W.cell? ⟨w.heap.size, k, none⟩ = (w.alloc A).cell? ⟨w.heap.size, k, none⟩) := fun A W k h => h.cell (p := ⟨w.heap.size, k, none⟩) (by simp) HN.out
  have HA : Hid (∀ A W, But b (w.alloc A) W → But b w W) := fun A W h => ((But.refl b w).alloc A).trans h
  have ha := may_push hi
  have OS := hide hs
  have OR := hide ha
  cases hL : leaveS a s with
  | none =>
    have HL := hide hL
    clear hs hi ha hL hS hlt
    go_enter Tryd.func58, Tryd.ntmps58
    go_wp2_with (go_at_call 77; refine (leave_no HL.out OS.out OR.out (HO.out _) (HB.out _)).mono ?_; rintro e w1 ⟨rfl, b1⟩; have B1 := hide b1; clear b1)
    go_ret
    exact ret_post HL.out rfl none_ob B1.out
  | some s1 =>
    have HL := hide hL
    clear hs hi ha hL hS hlt
    go_enter Tryd.func58, Tryd.ntmps58
    go_wp2_with (go_at_call 77; refine (leave_yes HL.out OS.out OR.out (HO.out _) (HB.out _)).mono ?_; rintro e w1 ⟨rfl, o1, b1⟩; have O1 := hide o1; clear o1; have B1 := hide b1; clear b1)
    go_ret
    exact ret_post HL.out rfl (some_ob O1.out) B1.out

set_option maxRecDepth 100000 in
set_option maxHeartbeats 1600000 in
theorem pass_2 (b : Nat) (tv : Value) (ty : List Int) (m : Nat) (a c n : Int) (s : Stk) (w : World) (hS : Ob w b 76 (encS s)) (hs : OkS s) (hTb : ∀ W, But b w W → ILst W tv ty) (hty : ∀ t ∈ ty, 1 ≤ t ∧ t ≤ 4) (hi : mayI ty m ⟨2, a, c, n⟩ = true) :
    Calls Tryd.prog 58 #[.pointer (some ⟨b, 0, none⟩), tv, .agg #[.int .i64 2, .int .i64 a, .int .i64 c, .int .i64 n]] w fun e w' => e = .returned (.bool (passS ty ⟨2, a, c, n⟩ s).isSome) ∧ (∀ s', passS ty ⟨2, a, c, n⟩ s = some s' → Ob w' b 76 (encS s')) ∧ But b w w' := by
  have HO : Hid (∀ A, Ob (w.alloc A) b 76 (encS s)) := fun A => hS.on ((Below.refl _ _).alloc (Nat.le_refl _) _) hS.lt
  have HB : Hid (∀ A, But b w (w.alloc A)) := fun A => (But.refl b w).alloc A
  have hlt := hS.lt
  have HN : Hid (w.heap.size ≠ b) := by show _ ≠ _; omega
  have HX : Hid (∀ A W k, But b (w.alloc A) W → W.cell? ⟨w.heap.size, k, none⟩ = (w.alloc A).cell? ⟨w.heap.size, k, none⟩) := fun A W k h => h.cell (p := ⟨w.heap.size, k, none⟩) (by simp) HN.out
  have HA : Hid (∀ A W, But b (w.alloc A) W → But b w W) := fun A W h => ((But.refl b w).alloc A).trans h
  obtain ⟨k, hk, hkl, hkx, hx0, hx1⟩ := tyC_of hty (may_cell hi (by decide))
  have HTX : Hid (∀ W, But b w W → ILst W tv ty) := hTb
  obtain ⟨X, hX⟩ : ∃ X, X = tyC ty a := ⟨_, rfl⟩
  rw [← hX] at hkx hx0 hx1
  have HXX := hide hX
  have HKX := hide hkx
  obtain ⟨va, vb, voff, vcap, rfl, hvA, hvI⟩ := hTb w (But.refl b w)
  obtain ⟨hvb, rfl⟩ := hvA (by omega)
  have HT2 : Hid (∀ W, But b w W → W.cell? ⟨vb, voff + k, none⟩ = some (.int .i64 X)) := fun W hW => by
    obtain ⟨va', vb', voff', vcap', e, hvA', hvI'⟩ := HTX.out W hW
    injection e with e1 e2 e3
    obtain ⟨_, rfl⟩ := hvA' (by omega)
    obtain ⟨rfl, rfl⟩ : vb = vb' ∧ voff = voff' := by injection e1 with e1; injection e1 with e1 e2; exact ⟨e1, e2⟩
    exact hvI' k X HKX.out
  obtain ⟨L, hL⟩ : ∃ L, L = ty.length := ⟨_, rfl⟩
  have hkl : (k : Int) < (L : Int) := by omega
  have k0 : (0 : Int) ≤ (k : Int) := by omega
  rw [← hL]
  have OS := hide hs
  have OR : Hid (1 ≤ X ∧ X ≤ 4) := ⟨hx0, hx1⟩
  have HP : Hid (passS ty ⟨2, a, c, n⟩ s = leaveS X s) := by show _ = _; rw [HXX.out]; rfl
  have ct : ∀ A, (w.alloc A).cell? ⟨vb, voff + k, none⟩ = some (.int .i64 X) := fun A => HT2.out _ (HB.out A)
  rw [hk] at HP ⊢
  cases hL : leaveS X s with
  | none =>
    have HL := hide hL
    rw [hL] at HP
    clear hTb hs hi hty hL hS hlt hx0 hx1 hX hkx hvA hvI hvb hk
    go_enter Tryd.func58, Tryd.ntmps58
    go_wp2_with (go_at_call 77; refine (leave_no HL.out OS.out OR.out (HO.out _) (HB.out _)).mono ?_; rintro e w1 ⟨rfl, b1⟩; have B1 := hide b1; clear b1)
    go_ret
    exact ret_post HP.out rfl none_ob B1.out
  | some s1 =>
    have HL := hide hL
    rw [hL] at HP
    clear hTb hs hi hty hL hS hlt hx0 hx1 hX hkx hvA hvI hvb hk
    go_enter Tryd.func58, Tryd.ntmps58
    go_wp2_with (go_at_call 77; refine (leave_yes HL.out OS.out OR.out (HO.out _) (HB.out _)).mono ?_; rintro e w1 ⟨rfl, o1, b1⟩; have O1 := hide o1; clear o1; have B1 := hide b1; clear b1)
    go_ret
    exact ret_post HP.out rfl (some_ob O1.out) B1.out

set_option maxRecDepth 100000 in
set_option maxHeartbeats 1600000 in
theorem pass_3 (b : Nat) (tv : Value) (ty : List Int) (m : Nat) (a c n : Int) (s : Stk) (w : World) (hS : Ob w b 76 (encS s)) (hs : OkS s) (hTb : ∀ W, But b w W → ILst W tv ty) (hty : ∀ t ∈ ty, 1 ≤ t ∧ t ≤ 4) (hi : mayI ty m ⟨3, a, c, n⟩ = true) :
    Calls Tryd.prog 58 #[.pointer (some ⟨b, 0, none⟩), tv, .agg #[.int .i64 3, .int .i64 a, .int .i64 c, .int .i64 n]] w fun e w' => e = .returned (.bool (passS ty ⟨3, a, c, n⟩ s).isSome) ∧ (∀ s', passS ty ⟨3, a, c, n⟩ s = some s' → Ob w' b 76 (encS s')) ∧ But b w w' := by
  have HO : Hid (∀ A, Ob (w.alloc A) b 76 (encS s)) := fun A => hS.on ((Below.refl _ _).alloc (Nat.le_refl _) _) hS.lt
  have HB : Hid (∀ A, But b w (w.alloc A)) := fun A => (But.refl b w).alloc A
  have hlt := hS.lt
  have HN : Hid (w.heap.size ≠ b) := by show _ ≠ _; omega
  have HX : Hid (∀ A W k, But b (w.alloc A) W → W.cell? ⟨w.heap.size, k, none⟩ = (w.alloc A).cell? ⟨w.heap.size, k, none⟩) := fun A W k h => h.cell (p := ⟨w.heap.size, k, none⟩) (by simp) HN.out
  have HA : Hid (∀ A W, But b (w.alloc A) W → But b w W) := fun A W h => ((But.refl b w).alloc A).trans h
  obtain ⟨k, hk, hkl, hkx, hx0, hx1⟩ := tyC_of hty (may_cell hi (by decide))
  have HTX : Hid (∀ W, But b w W → ILst W tv ty) := hTb
  obtain ⟨X, hX⟩ : ∃ X, X = tyC ty a := ⟨_, rfl⟩
  rw [← hX] at hkx hx0 hx1
  have HXX := hide hX
  have HKX := hide hkx
  obtain ⟨va, vb, voff, vcap, rfl, hvA, hvI⟩ := hTb w (But.refl b w)
  obtain ⟨hvb, rfl⟩ := hvA (by omega)
  have HT2 : Hid (∀ W, But b w W → W.cell? ⟨vb, voff + k, none⟩ = some (.int .i64 X)) := fun W hW => by
    obtain ⟨va', vb', voff', vcap', e, hvA', hvI'⟩ := HTX.out W hW
    injection e with e1 e2 e3
    obtain ⟨_, rfl⟩ := hvA' (by omega)
    obtain ⟨rfl, rfl⟩ : vb = vb' ∧ voff = voff' := by injection e1 with e1; injection e1 with e1 e2; exact ⟨e1, e2⟩
    exact hvI' k X HKX.out
  obtain ⟨L, hL⟩ : ∃ L, L = ty.length := ⟨_, rfl⟩
  have hkl : (k : Int) < (L : Int) := by omega
  have k0 : (0 : Int) ≤ (k : Int) := by omega
  rw [← hL]
  have OS := hide hs
  have HP : Hid (passS ty ⟨3, a, c, n⟩ s = takeS [X] s) := by show _ = _; rw [HXX.out]; rfl
  have ct : ∀ A, (w.alloc A).cell? ⟨vb, voff + k, none⟩ = some (.int .i64 X) := fun A => HT2.out _ (HB.out A)
  rw [hk] at HP ⊢
  cases hL : takeS [X] s with
  | none =>
    have HL := hide hL
    rw [hL] at HP
    clear hTb hs hi hty hS hlt hx0 hx1 hX hkx hvA hvI hvb hk hL
    go_enter Tryd.func58, Tryd.ntmps58
    go_wp2_with (go_at_call 78; refine (take_no HL.out OS.out (HO.out _) (HB.out _) (by first | rfl | simp)).mono ?_; rintro e w1 ⟨rfl, b1⟩; have B1 := hide b1; clear b1)
    go_ret
    exact ret_post HP.out rfl none_ob B1.out
  | some s1 =>
    have HL := hide hL
    rw [hL] at HP
    clear hTb hs hi hty hS hlt hx0 hx1 hX hkx hvA hvI hvb hk hL
    go_enter Tryd.func58, Tryd.ntmps58
    go_wp2_with (go_at_call 78; refine (take_yes HL.out OS.out (HO.out _) (HB.out _) (by first | rfl | simp)).mono ?_; rintro e w1 ⟨rfl, o1, b1⟩; have O1 := hide o1; clear o1; have B1 := hide b1; clear b1)
    go_ret
    exact ret_post HP.out rfl (some_ob O1.out) B1.out

set_option maxRecDepth 100000 in
set_option maxHeartbeats 1600000 in
theorem pass_4 (b : Nat) (tv : Value) (ty : List Int) (m : Nat) (a c n : Int) (s : Stk) (w : World) (hS : Ob w b 76 (encS s)) (hs : OkS s) (hTb : ∀ W, But b w W → ILst W tv ty) (hty : ∀ t ∈ ty, 1 ≤ t ∧ t ≤ 4) (hi : mayI ty m ⟨4, a, c, n⟩ = true) :
    Calls Tryd.prog 58 #[.pointer (some ⟨b, 0, none⟩), tv, .agg #[.int .i64 4, .int .i64 a, .int .i64 c, .int .i64 n]] w fun e w' => e = .returned (.bool (passS ty ⟨4, a, c, n⟩ s).isSome) ∧ (∀ s', passS ty ⟨4, a, c, n⟩ s = some s' → Ob w' b 76 (encS s')) ∧ But b w w' := by
  have HO : Hid (∀ A, Ob (w.alloc A) b 76 (encS s)) := fun A => hS.on ((Below.refl _ _).alloc (Nat.le_refl _) _) hS.lt
  have HB : Hid (∀ A, But b w (w.alloc A)) := fun A => (But.refl b w).alloc A
  have hlt := hS.lt
  have HN : Hid (w.heap.size ≠ b) := by show _ ≠ _; omega
  have HX : Hid (∀ A W k, But b (w.alloc A) W → W.cell? ⟨w.heap.size, k, none⟩ = (w.alloc A).cell? ⟨w.heap.size, k, none⟩) := fun A W k h => h.cell (p := ⟨w.heap.size, k, none⟩) (by simp) HN.out
  have HA : Hid (∀ A W, But b (w.alloc A) W → But b w W) := fun A W h => ((But.refl b w).alloc A).trans h
  obtain ⟨k, hk, hkl, hkx, hx0, hx1⟩ := tyC_of hty (may_cell hi (by decide))
  have HTX : Hid (∀ W, But b w W → ILst W tv ty) := hTb
  obtain ⟨X, hX⟩ : ∃ X, X = tyC ty a := ⟨_, rfl⟩
  rw [← hX] at hkx hx0 hx1
  have HXX := hide hX
  have HKX := hide hkx
  obtain ⟨va, vb, voff, vcap, rfl, hvA, hvI⟩ := hTb w (But.refl b w)
  obtain ⟨hvb, rfl⟩ := hvA (by omega)
  have HT2 : Hid (∀ W, But b w W → W.cell? ⟨vb, voff + k, none⟩ = some (.int .i64 X)) := fun W hW => by
    obtain ⟨va', vb', voff', vcap', e, hvA', hvI'⟩ := HTX.out W hW
    injection e with e1 e2 e3
    obtain ⟨_, rfl⟩ := hvA' (by omega)
    obtain ⟨rfl, rfl⟩ : vb = vb' ∧ voff = voff' := by injection e1 with e1; injection e1 with e1 e2; exact ⟨e1, e2⟩
    exact hvI' k X HKX.out
  obtain ⟨L, hL⟩ : ∃ L, L = ty.length := ⟨_, rfl⟩
  have hkl : (k : Int) < (L : Int) := by omega
  have k0 : (0 : Int) ≤ (k : Int) := by omega
  rw [← hL]
  have OS := hide hs
  have OR : Hid (1 ≤ X ∧ X ≤ 4) := ⟨hx0, hx1⟩
  have HP : Hid (passS ty ⟨4, a, c, n⟩ s = (takeS [2, 3] s).bind (leaveS X)) := by show _ = _; rw [HXX.out]; rfl
  rw [hk] at HP ⊢
  cases hL : takeS [2, 3] s with
  | none =>
    have HL := hide hL
    rw [hL] at HP
    clear hTb hs hi hty hS hlt hx0 hx1 hX hkx hvA hvI hvb hk hL
    go_enter Tryd.func58, Tryd.ntmps58
    go_wp2_with (go_at_call 79; (with_reducible refine (idx_no HL.out OS.out (HO.out _) (HB.out _)).mono ?_); rintro e w1 ⟨rfl, b1⟩; have B1 := hide b1; clear b1)
    go_ret
    exact ret_post HP.out rfl none_ob B1.out
  | some s1 =>
    have HL := hide hL
    have OT := hide (take_ok' hL hs)
    rw [hL] at HP
    cases hM : leaveS X s1 with
    | none =>
      have HM := hide hM
      have HP : Hid (passS ty ⟨4, (k : Int), c, n⟩ s = none) := HP.out.trans hM
      clear hTb hs hi hty hS hlt hx0 hx1 hX hkx hvA hvI hvb hk hL hM
      go_enter Tryd.func58, Tryd.ntmps58
      go_wp2_with (first | (go_at_call 79; (with_reducible refine (idx_yes HL.out OS.out (HO.out _) (But.refl b _)).mono ?_); rintro e w1 ⟨rfl, o1, b1⟩; have O1 := hide o1; clear o1; have B1 := hide b1; clear b1; have f1 := (HX.out (.cells #[.int .i64 4, .int .i64 (k : Int), .int .i64 c, .int .i64 n] 38) w1 1 B1.out); simp [go_sem] at f1; have t0 := HT2.out _ (HA.out _ _ B1.out)) | (go_at_call 77; (with_reducible refine (leave_no HM.out OT.out OR.out (O1.out) (B1.out)).mono ?_); rintro e w2 ⟨rfl, b2⟩; have B2 := hide b2; clear b2))
      go_ret
      exact ret_post HP.out rfl none_ob (HA.out _ _ B2.out)
    | some s2 =>
      have HM := hide hM
      have HP : Hid (passS ty ⟨4, (k : Int), c, n⟩ s = some s2) := HP.out.trans hM
      clear hTb hs hi hty hS hlt hx0 hx1 hX hkx hvA hvI hvb hk hL hM
      go_enter Tryd.func58, Tryd.ntmps58
      go_wp2_with (first | (go_at_call 79; (with_reducible refine (idx_yes HL.out OS.out (HO.out _) (But.refl b _)).mono ?_); rintro e w1 ⟨rfl, o1, b1⟩; have O1 := hide o1; clear o1; have B1 := hide b1; clear b1; have f1 := (HX.out (.cells #[.int .i64 4, .int .i64 (k : Int), .int .i64 c, .int .i64 n] 38) w1 1 B1.out); simp [go_sem] at f1; have t0 := HT2.out _ (HA.out _ _ B1.out)) | (go_at_call 77; (with_reducible refine (leave_yes HM.out OT.out OR.out (O1.out) (B1.out)).mono ?_); rintro e w2 ⟨rfl, o2, b2⟩; have O2 := hide o2; clear o2; have B2 := hide b2; clear b2))
      go_ret
      exact ret_post HP.out rfl (some_ob O2.out) (HA.out _ _ B2.out)

set_option maxRecDepth 100000 in
set_option maxHeartbeats 1600000 in
theorem pass_5 (b : Nat) (tv : Value) (ty : List Int) (m : Nat) (a c n : Int) (s : Stk) (w : World) (hS : Ob w b 76 (encS s)) (hs : OkS s) (hTb : ∀ W, But b w W → ILst W tv ty) (hty : ∀ t ∈ ty, 1 ≤ t ∧ t ≤ 4) (hi : mayI ty m ⟨5, a, c, n⟩ = true) :
    Calls Tryd.prog 58 #[.pointer (some ⟨b, 0, none⟩), tv, .agg #[.int .i64 5, .int .i64 a, .int .i64 c, .int .i64 n]] w fun e w' => e = .returned (.bool (passS ty ⟨5, a, c, n⟩ s).isSome) ∧ (∀ s', passS ty ⟨5, a, c, n⟩ s = some s' → Ob w' b 76 (encS s')) ∧ But b w w' := by
  have HO : Hid (∀ A, Ob (w.alloc A) b 76 (encS s)) := fun A => hS.on ((Below.refl _ _).alloc (Nat.le_refl _) _) hS.lt
  have HB : Hid (∀ A, But b w (w.alloc A)) := fun A => (But.refl b w).alloc A
  have hlt := hS.lt
  have HN : Hid (w.heap.size ≠ b) := by show _ ≠ _; omega
  have HX : Hid (∀ A W k, But b (w.alloc A) W → W.cell? ⟨w.heap.size, k, none⟩ = (w.alloc A).cell? ⟨w.heap.size, k, none⟩) := fun A W k h => h.cell (p := ⟨w.heap.size, k, none⟩) (by simp) HN.out
  have HA : Hid (∀ A W, But b (w.alloc A) W → But b w W) := fun A W h => ((But.refl b w).alloc A).trans h
  obtain ⟨k, hk, hkl, hkx, hx0, hx1⟩ := tyC_of hty (may_cell hi (by decide))
  have HTX : Hid (∀ W, But b w W → ILst W tv ty) := hTb
  obtain ⟨X, hX⟩ : ∃ X, X = tyC ty a := ⟨_, rfl⟩
  rw [← hX] at hkx hx0 hx1
  have HXX := hide hX
  have HKX := hide hkx
  obtain ⟨va, vb, voff, vcap, rfl, hvA, hvI⟩ := hTb w (But.refl b w)
  obtain ⟨hvb, rfl⟩ := hvA (by omega)
  have HT2 : Hid (∀ W, But b w W → W.cell? ⟨vb, voff + k, none⟩ = some (.int .i64 X)) := fun W hW => by
    obtain ⟨va', vb', voff', vcap', e, hvA', hvI'⟩ := HTX.out W hW
    injection e with e1 e2 e3
    obtain ⟨_, rfl⟩ := hvA' (by omega)
    obtain ⟨rfl, rfl⟩ : vb = vb' ∧ voff = voff' := by injection e1 with e1; injection e1 with e1 e2; exact ⟨e1, e2⟩
    exact hvI' k X HKX.out
  obtain ⟨L, hL⟩ : ∃ L, L = ty.length := ⟨_, rfl⟩
  have hkl : (k : Int) < (L : Int) := by omega
  have k0 : (0 : Int) ≤ (k : Int) := by omega
  rw [← hL]
  have OS := hide hs
  have HP : Hid (passS ty ⟨5, a, c, n⟩ s = (takeS [X] s).bind (takeS [2, 3])) := by show _ = _; rw [HXX.out]; rfl
  have ct : ∀ A, (w.alloc A).cell? ⟨vb, voff + k, none⟩ = some (.int .i64 X) := fun A => HT2.out _ (HB.out A)
  rw [hk] at HP ⊢
  cases hL : takeS [X] s with
  | none =>
    have HL := hide hL
    rw [hL] at HP
    clear hTb hs hi hty hS hlt hx0 hx1 hX hkx hvA hvI hvb hk hL
    go_enter Tryd.func58, Tryd.ntmps58
    go_wp2_with (go_at_call 78; (with_reducible refine (take_no HL.out OS.out (HO.out _) (HB.out _) (by first | rfl | simp)).mono ?_); rintro e w1 ⟨rfl, b1⟩; have B1 := hide b1; clear b1)
    go_ret
    exact ret_post HP.out rfl none_ob B1.out
  | some s1 =>
    have HL := hide hL
    have OT := hide (take_ok' hL hs)
    rw [hL] at HP
    cases hM : takeS [2, 3] s1 with
    | none =>
      have HM := hide hM
      have HP : Hid (passS ty ⟨5, (k : Int), c, n⟩ s = none) := HP.out.trans hM
      clear hTb hs hi hty hS hlt hx0 hx1 hX hkx hvA hvI hvb hk hL hM
      go_enter Tryd.func58, Tryd.ntmps58
      go_wp2_with (first | (go_at_call 78; (with_reducible refine (take_yes HL.out OS.out (HO.out _) (But.refl b _) (by first | rfl | simp)).mono ?_); rintro e w1 ⟨rfl, o1, b1⟩; have O1 := hide o1; clear o1; have B1 := hide b1; clear b1) | (go_at_call 79; (with_reducible refine (idx_no HM.out OT.out (O1.out) (B1.out)).mono ?_); rintro e w2 ⟨rfl, b2⟩; have B2 := hide b2; clear b2))
      go_ret
      exact ret_post HP.out rfl none_ob (HA.out _ _ B2.out)
    | some s2 =>
      have HM := hide hM
      have HP : Hid (passS ty ⟨5, (k : Int), c, n⟩ s = some s2) := HP.out.trans hM
      clear hTb hs hi hty hS hlt hx0 hx1 hX hkx hvA hvI hvb hk hL hM
      go_enter Tryd.func58, Tryd.ntmps58
      go_wp2_with (first | (go_at_call 78; (with_reducible refine (take_yes HL.out OS.out (HO.out _) (But.refl b _) (by first | rfl | simp)).mono ?_); rintro e w1 ⟨rfl, o1, b1⟩; have O1 := hide o1; clear o1; have B1 := hide b1; clear b1) | (go_at_call 79; (with_reducible refine (idx_yes HM.out OT.out (O1.out) (B1.out)).mono ?_); rintro e w2 ⟨rfl, o2, b2⟩; have O2 := hide o2; clear o2; have B2 := hide b2; clear b2))
      go_ret
      exact ret_post HP.out rfl (some_ob O2.out) (HA.out _ _ B2.out)

set_option maxRecDepth 100000 in
set_option maxHeartbeats 1600000 in
theorem pass_7 (b : Nat) (tv : Value) (ty : List Int) (m : Nat) (a c n : Int) (s : Stk) (w : World) (hS : Ob w b 76 (encS s)) (hs : OkS s) (_ : ∀ W, But b w W → ILst W tv ty) (_ : ∀ t ∈ ty, 1 ≤ t ∧ t ≤ 4) (hi : mayI ty m ⟨7, a, c, n⟩ = true) :
    Calls Tryd.prog 58 #[.pointer (some ⟨b, 0, none⟩), tv, .agg #[.int .i64 7, .int .i64 a, .int .i64 c, .int .i64 n]] w fun e w' => e = .returned (.bool (passS ty ⟨7, a, c, n⟩ s).isSome) ∧ (∀ s', passS ty ⟨7, a, c, n⟩ s = some s' → Ob w' b 76 (encS s')) ∧ But b w w' := by
  have HO : Hid (∀ A, Ob (w.alloc A) b 76 (encS s)) := fun A => hS.on ((Below.refl _ _).alloc (Nat.le_refl _) _) hS.lt
  have HB : Hid (∀ A, But b w (w.alloc A)) := fun A => (But.refl b w).alloc A
  have hlt := hS.lt
  have HN : Hid (w.heap.size ≠ b) := by show _ ≠ _; omega
  have HX : Hid (∀ A W k, But b (w.alloc A) W → W.cell? ⟨w.heap.size, k, none⟩ = (w.alloc A).cell? ⟨w.heap.size, k, none⟩) := fun A W k h => h.cell (p := ⟨w.heap.size, k, none⟩) (by simp) HN.out
  have HA : Hid (∀ A W, But b (w.alloc A) W → But b w W) := fun A W h => ((But.refl b w).alloc A).trans h
  have OR := hide (may_one hi)
  have OS := hide hs
  have HP : Hid (passS ty ⟨7, a, c, n⟩ s = (takeS [c] s).bind (leaveS c)) := rfl
  cases hL : takeS [c] s with
  | none =>
    have HL := hide hL
    rw [hL] at HP
    clear hs hi hS hlt hL
    go_enter Tryd.func58, Tryd.ntmps58
    go_wp2_with (go_at_call 78; (with_reducible refine (take_no HL.out OS.out (HO.out _) (HB.out _) (by first | rfl | simp)).mono ?_); rintro e w1 ⟨rfl, b1⟩; have B1 := hide b1; clear b1)
    go_ret
    exact ret_post HP.out rfl none_ob B1.out
  | some s1 =>
    have HL := hide hL
    have OT := hide (take_ok' hL hs)
    rw [hL] at HP
    cases hM : leaveS c s1 with
    | none =>
      have HM := hide hM
      have HP : Hid (passS ty ⟨7, a, c, n⟩ s = none) := HP.out.trans hM
      clear hs hi hS hlt hL hM
      go_enter Tryd.func58, Tryd.ntmps58
      go_wp2_with (first | (go_at_call 78; (with_reducible refine (take_yes HL.out OS.out (HO.out _) (But.refl b _) (by first | rfl | simp)).mono ?_); rintro e w1 ⟨rfl, o1, b1⟩; have O1 := hide o1; clear o1; have B1 := hide b1; clear b1; have f2 := (HX.out (.cells #[.int .i64 7, .int .i64 a, .int .i64 c, .int .i64 n] 38) w1 2 B1.out); simp [go_sem] at f2) | (go_at_call 77; (with_reducible refine (leave_no HM.out OT.out OR.out (O1.out) (B1.out)).mono ?_); rintro e w2 ⟨rfl, b2⟩; have B2 := hide b2; clear b2))
      go_ret
      exact ret_post HP.out rfl none_ob (HA.out _ _ B2.out)
    | some s2 =>
      have HM := hide hM
      have HP : Hid (passS ty ⟨7, a, c, n⟩ s = some s2) := HP.out.trans hM
      clear hs hi hS hlt hL hM
      go_enter Tryd.func58, Tryd.ntmps58
      go_wp2_with (first | (go_at_call 78; (with_reducible refine (take_yes HL.out OS.out (HO.out _) (But.refl b _) (by first | rfl | simp)).mono ?_); rintro e w1 ⟨rfl, o1, b1⟩; have O1 := hide o1; clear o1; have B1 := hide b1; clear b1; have f2 := (HX.out (.cells #[.int .i64 7, .int .i64 a, .int .i64 c, .int .i64 n] 38) w1 2 B1.out); simp [go_sem] at f2) | (go_at_call 77; (with_reducible refine (leave_yes HM.out OT.out OR.out (O1.out) (B1.out)).mono ?_); rintro e w2 ⟨rfl, o2, b2⟩; have O2 := hide o2; clear o2; have B2 := hide b2; clear b2))
      go_ret
      exact ret_post HP.out rfl (some_ob O2.out) (HA.out _ _ B2.out)

set_option maxRecDepth 100000 in
set_option maxHeartbeats 1600000 in
theorem pass_8 (b : Nat) (tv : Value) (ty : List Int) (m : Nat) (a c n : Int) (s : Stk) (w : World) (hS : Ob w b 76 (encS s)) (hs : OkS s) (_ : ∀ W, But b w W → ILst W tv ty) (_ : ∀ t ∈ ty, 1 ≤ t ∧ t ≤ 4) (hi : mayI ty m ⟨8, a, c, n⟩ = true) :
    Calls Tryd.prog 58 #[.pointer (some ⟨b, 0, none⟩), tv, .agg #[.int .i64 8, .int .i64 a, .int .i64 c, .int .i64 n]] w fun e w' => e = .returned (.bool (passS ty ⟨8, a, c, n⟩ s).isSome) ∧ (∀ s', passS ty ⟨8, a, c, n⟩ s = some s' → Ob w' b 76 (encS s')) ∧ But b w w' := by
  have HO : Hid (∀ A, Ob (w.alloc A) b 76 (encS s)) := fun A => hS.on ((Below.refl _ _).alloc (Nat.le_refl _) _) hS.lt
  have HB : Hid (∀ A, But b w (w.alloc A)) := fun A => (But.refl b w).alloc A
  have hlt := hS.lt
  have HN : Hid (w.heap.size ≠ b) := by show _ ≠ _; omega
  have HX : Hid (∀ A W k, But b (w.alloc A) W → W.cell? ⟨w.heap.size, k, none⟩ = (w.alloc A).cell? ⟨w.heap.size, k, none⟩) := fun A W k h => h.cell (p := ⟨w.heap.size, k, none⟩) (by simp) HN.out
  have HA : Hid (∀ A W, But b (w.alloc A) W → But b w W) := fun A W h => ((But.refl b w).alloc A).trans h
  have OR := hide (may_to hi).2
  have OS := hide hs
  have HP : Hid (passS ty ⟨8, a, c, n⟩ s = (takeS [a] s).bind (leaveS c)) := rfl
  cases hL : takeS [a] s with
  | none =>
    have HL := hide hL
    rw [hL] at HP
    clear hs hi hS hlt hL
    go_enter Tryd.func58, Tryd.ntmps58
    go_wp2_with (go_at_call 78; (with_reducible refine (take_no HL.out OS.out (HO.out _) (HB.out _) (by first | rfl | simp)).mono ?_); rintro e w1 ⟨rfl, b1⟩; have B1 := hide b1; clear b1)
    go_ret
    exact ret_post HP.out rfl none_ob B1.out
  | some s1 =>
    have HL := hide hL
    have OT := hide (take_ok' hL hs)
    rw [hL] at HP
    cases hM : leaveS c s1 with
    | none =>
      have HM := hide hM
      have HP : Hid (passS ty ⟨8, a, c, n⟩ s = none) := HP.out.trans hM
      clear hs hi hS hlt hL hM
      go_enter Tryd.func58, Tryd.ntmps58
      go_wp2_with (first | (go_at_call 78; (with_reducible refine (take_yes HL.out OS.out (HO.out _) (But.refl b _) (by first | rfl | simp)).mono ?_); rintro e w1 ⟨rfl, o1, b1⟩; have O1 := hide o1; clear o1; have B1 := hide b1; clear b1; have f2 := (HX.out (.cells #[.int .i64 8, .int .i64 a, .int .i64 c, .int .i64 n] 38) w1 2 B1.out); simp [go_sem] at f2) | (go_at_call 77; (with_reducible refine (leave_no HM.out OT.out OR.out (O1.out) (B1.out)).mono ?_); rintro e w2 ⟨rfl, b2⟩; have B2 := hide b2; clear b2))
      go_ret
      exact ret_post HP.out rfl none_ob (HA.out _ _ B2.out)
    | some s2 =>
      have HM := hide hM
      have HP : Hid (passS ty ⟨8, a, c, n⟩ s = some s2) := HP.out.trans hM
      clear hs hi hS hlt hL hM
      go_enter Tryd.func58, Tryd.ntmps58
      go_wp2_with (first | (go_at_call 78; (with_reducible refine (take_yes HL.out OS.out (HO.out _) (But.refl b _) (by first | rfl | simp)).mono ?_); rintro e w1 ⟨rfl, o1, b1⟩; have O1 := hide o1; clear o1; have B1 := hide b1; clear b1; have f2 := (HX.out (.cells #[.int .i64 8, .int .i64 a, .int .i64 c, .int .i64 n] 38) w1 2 B1.out); simp [go_sem] at f2) | (go_at_call 77; (with_reducible refine (leave_yes HM.out OT.out OR.out (O1.out) (B1.out)).mono ?_); rintro e w2 ⟨rfl, o2, b2⟩; have O2 := hide o2; clear o2; have B2 := hide b2; clear b2))
      go_ret
      exact ret_post HP.out rfl (some_ob O2.out) (HA.out _ _ B2.out)

set_option maxRecDepth 100000 in
set_option maxHeartbeats 1600000 in
theorem pass_10 (b : Nat) (tv : Value) (ty : List Int) (m : Nat) (a c n : Int) (s : Stk) (w : World) (hS : Ob w b 76 (encS s)) (hs : OkS s) (_ : ∀ W, But b w W → ILst W tv ty) (_ : ∀ t ∈ ty, 1 ≤ t ∧ t ≤ 4) (_ : mayI ty m ⟨10, a, c, n⟩ = true) :
    Calls Tryd.prog 58 #[.pointer (some ⟨b, 0, none⟩), tv, .agg #[.int .i64 10, .int .i64 a, .int .i64 c, .int .i64 n]] w fun e w' => e = .returned (.bool (passS ty ⟨10, a, c, n⟩ s).isSome) ∧ (∀ s', passS ty ⟨10, a, c, n⟩ s = some s' → Ob w' b 76 (encS s')) ∧ But b w w' := by
  have HO : Hid (∀ A, Ob (w.alloc A) b 76 (encS s)) := fun A => hS.on ((Below.refl _ _).alloc (Nat.le_refl _) _) hS.lt
  have HB : Hid (∀ A, But b w (w.alloc A)) := fun A => (But.refl b w).alloc A
  have hlt := hS.lt
  have HN : Hid (w.heap.size ≠ b) := by show _ ≠ _; omega
  have HX : Hid (∀ A W k, But b (w.alloc A) W → W.cell? ⟨w.heap.size, k, none⟩ = (w.alloc A).cell? ⟨w.heap.size, k, none⟩) := fun A W k h => h.cell (p := ⟨w.heap.size, k, none⟩) (by simp) HN.out
  have HA : Hid (∀ A W, But b (w.alloc A) W → But b w W) := fun A W h => ((But.refl b w).alloc A).trans h
  have OS := hide hs
  have HP : Hid (passS ty ⟨10, a, c, n⟩ s = takeS [1] s) := rfl
  cases hL : takeS [1] s with
  | none =>
    have HL := hide hL
    rw [hL] at HP
    clear hs hS hlt hL
    go_enter Tryd.func58, Tryd.ntmps58
    go_wp2_with (go_at_call 78; (with_reducible refine (take_no HL.out OS.out (HO.out _) (HB.out _) (by first | rfl | simp)).mono ?_); rintro e w1 ⟨rfl, b1⟩; have B1 := hide b1; clear b1)
    go_ret
    exact ret_post HP.out rfl none_ob B1.out
  | some s1 =>
    have HL := hide hL
    rw [hL] at HP
    clear hs hS hlt hL
    go_enter Tryd.func58, Tryd.ntmps58
    go_wp2_with (go_at_call 78; (with_reducible refine (take_yes HL.out OS.out (HO.out _) (HB.out _) (by first | rfl | simp)).mono ?_); rintro e w1 ⟨rfl, o1, b1⟩; have O1 := hide o1; clear o1; have B1 := hide b1; clear b1)
    go_ret
    exact ret_post HP.out rfl (some_ob O1.out) B1.out

set_option maxRecDepth 100000 in
set_option maxHeartbeats 1600000 in
theorem pass_9 (b : Nat) (tv : Value) (ty : List Int) (m : Nat) (a c n : Int) (s : Stk) (w : World) (hS : Ob w b 76 (encS s)) (_ : OkS s) (_ : ∀ W, But b w W → ILst W tv ty) (_ : ∀ t ∈ ty, 1 ≤ t ∧ t ≤ 4) (_ : mayI ty m ⟨9, a, c, n⟩ = true) :
    Calls Tryd.prog 58 #[.pointer (some ⟨b, 0, none⟩), tv, .agg #[.int .i64 9, .int .i64 a, .int .i64 c, .int .i64 n]] w fun e w' => e = .returned (.bool (passS ty ⟨9, a, c, n⟩ s).isSome) ∧ (∀ s', passS ty ⟨9, a, c, n⟩ s = some s' → Ob w' b 76 (encS s')) ∧ But b w w' := by
  have HO : Hid (∀ A, Ob (w.alloc A) b 76 (encS s)) := fun A => hS.on ((Below.refl _ _).alloc (Nat.le_refl _) _) hS.lt
  have HB : Hid (∀ A, But b w (w.alloc A)) := fun A => (But.refl b w).alloc A
  have hlt := hS.lt
  have HN : Hid (w.heap.size ≠ b) := by show _ ≠ _; omega
  have HX : Hid (∀ A W k, But b (w.alloc A) W → W.cell? ⟨w.heap.size, k, none⟩ = (w.alloc A).cell? ⟨w.heap.size, k, none⟩) := fun A W k h => h.cell (p := ⟨w.heap.size, k, none⟩) (by simp) HN.out
  have HA : Hid (∀ A W, But b (w.alloc A) W → But b w W) := fun A W h => ((But.refl b w).alloc A).trans h
  have HP : Hid (passS ty ⟨9, a, c, n⟩ s = some s) := rfl
  clear hS hlt
  go_enter Tryd.func58, Tryd.ntmps58
  go_wp2
  go_ret
  exact ret_post HP.out rfl (some_ob (HO.out _)) (HB.out _)

set_option maxRecDepth 100000 in
set_option maxHeartbeats 1600000 in
theorem pass_11 (b : Nat) (tv : Value) (ty : List Int) (m : Nat) (a c n : Int) (s : Stk) (w : World) (hS : Ob w b 76 (encS s)) (_ : OkS s) (_ : ∀ W, But b w W → ILst W tv ty) (_ : ∀ t ∈ ty, 1 ≤ t ∧ t ≤ 4) (_ : mayI ty m ⟨11, a, c, n⟩ = true) :
    Calls Tryd.prog 58 #[.pointer (some ⟨b, 0, none⟩), tv, .agg #[.int .i64 11, .int .i64 a, .int .i64 c, .int .i64 n]] w fun e w' => e = .returned (.bool (passS ty ⟨11, a, c, n⟩ s).isSome) ∧ (∀ s', passS ty ⟨11, a, c, n⟩ s = some s' → Ob w' b 76 (encS s')) ∧ But b w w' := by
  have HO : Hid (∀ A, Ob (w.alloc A) b 76 (encS s)) := fun A => hS.on ((Below.refl _ _).alloc (Nat.le_refl _) _) hS.lt
  have HB : Hid (∀ A, But b w (w.alloc A)) := fun A => (But.refl b w).alloc A
  have hlt := hS.lt
  have HN : Hid (w.heap.size ≠ b) := by show _ ≠ _; omega
  have HX : Hid (∀ A W k, But b (w.alloc A) W → W.cell? ⟨w.heap.size, k, none⟩ = (w.alloc A).cell? ⟨w.heap.size, k, none⟩) := fun A W k h => h.cell (p := ⟨w.heap.size, k, none⟩) (by simp) HN.out
  have HA : Hid (∀ A W, But b (w.alloc A) W → But b w W) := fun A W h => ((But.refl b w).alloc A).trans h
  have HP : Hid (passS ty ⟨11, a, c, n⟩ s = some s) := rfl
  clear hS hlt
  go_enter Tryd.func58, Tryd.ntmps58
  go_wp2
  go_ret
  exact ret_post HP.out rfl (some_ob (HO.out _)) (HB.out _)

set_option maxRecDepth 100000 in
set_option maxHeartbeats 1600000 in
theorem pass_12 (b : Nat) (tv : Value) (ty : List Int) (m : Nat) (a c n : Int) (s : Stk) (w : World) (hS : Ob w b 76 (encS s)) (_ : OkS s) (_ : ∀ W, But b w W → ILst W tv ty) (_ : ∀ t ∈ ty, 1 ≤ t ∧ t ≤ 4) (_ : mayI ty m ⟨12, a, c, n⟩ = true) :
    Calls Tryd.prog 58 #[.pointer (some ⟨b, 0, none⟩), tv, .agg #[.int .i64 12, .int .i64 a, .int .i64 c, .int .i64 n]] w fun e w' => e = .returned (.bool (passS ty ⟨12, a, c, n⟩ s).isSome) ∧ (∀ s', passS ty ⟨12, a, c, n⟩ s = some s' → Ob w' b 76 (encS s')) ∧ But b w w' := by
  have HO : Hid (∀ A, Ob (w.alloc A) b 76 (encS s)) := fun A => hS.on ((Below.refl _ _).alloc (Nat.le_refl _) _) hS.lt
  have HB : Hid (∀ A, But b w (w.alloc A)) := fun A => (But.refl b w).alloc A
  have hlt := hS.lt
  have HN : Hid (w.heap.size ≠ b) := by show _ ≠ _; omega
  have HX : Hid (∀ A W k, But b (w.alloc A) W → W.cell? ⟨w.heap.size, k, none⟩ = (w.alloc A).cell? ⟨w.heap.size, k, none⟩) := fun A W k h => h.cell (p := ⟨w.heap.size, k, none⟩) (by simp) HN.out
  have HA : Hid (∀ A W, But b (w.alloc A) W → But b w W) := fun A W h => ((But.refl b w).alloc A).trans h
  have HP : Hid (passS ty ⟨12, a, c, n⟩ s = some s) := rfl
  clear hS hlt
  go_enter Tryd.func58, Tryd.ntmps58
  go_wp2
  go_ret
  exact ret_post HP.out rfl (some_ob (HO.out _)) (HB.out _)

set_option maxRecDepth 100000 in
set_option maxHeartbeats 1600000 in
theorem pass_6 (b : Nat) (tv : Value) (ty : List Int) (m : Nat) (a c n : Int) (s : Stk) (w : World) (hS : Ob w b 76 (encS s)) (hs : OkS s) (_ : ∀ W, But b w W → ILst W tv ty) (_ : ∀ t ∈ ty, 1 ≤ t ∧ t ≤ 4) (hi : mayI ty m ⟨6, a, c, n⟩ = true) :
    Calls Tryd.prog 58 #[.pointer (some ⟨b, 0, none⟩), tv, .agg #[.int .i64 6, .int .i64 a, .int .i64 c, .int .i64 n]] w fun e w' => e = .returned (.bool (passS ty ⟨6, a, c, n⟩ s).isSome) ∧ (∀ s', passS ty ⟨6, a, c, n⟩ s = some s' → Ob w' b 76 (encS s')) ∧ But b w w' := by
  have HO : Hid (∀ A, Ob (w.alloc A) b 76 (encS s)) := fun A => hS.on ((Below.refl _ _).alloc (Nat.le_refl _) _) hS.lt
  have HB : Hid (∀ A, But b w (w.alloc A)) := fun A => (But.refl b w).alloc A
  have hlt := hS.lt
  have HN : Hid (w.heap.size ≠ b) := by show _ ≠ _; omega
  have HX : Hid (∀ A W k, But b (w.alloc A) W → W.cell? ⟨w.heap.size, k, none⟩ = (w.alloc A).cell? ⟨w.heap.size, k, none⟩) := fun A W k h => h.cell (p := ⟨w.heap.size, k, none⟩) (by simp) HN.out
  have HA : Hid (∀ A W, But b (w.alloc A) W → But b w W) := fun A W h => ((But.refl b w).alloc A).trans h
  have OR := hide (may_two hi)
  have HOB : Hid (∀ A W, Below (w.alloc A).heap.size (w.alloc A) W → Ob W b 76 (encS s)) := fun A W h => (HO.out A).on h (by simp; omega)
  have HBB : Hid (∀ A W, Below (w.alloc A).heap.size (w.alloc A) W → But b (w.alloc A) W) := fun A W h => But.of_below h
  have OS := hide hs
  have HP : Hid (passS ty ⟨6, a, c, n⟩ s = ((takeS [c] s).bind (takeS [c])).bind (leaveS (Four.resN a c).1)) := rfl
  cases hL : takeS [c] s with
  | none =>
    have HL := hide hL
    rw [hL] at HP
    clear hs hi hS hlt hL
    go_enter Tryd.func58, Tryd.ntmps58
    go_wp2_with (first | (go_at_call 80; refine (Four.res_any a c _).mono ?_; rintro e w0 ⟨rfl, b0⟩; have O0 := hide (HOB.out _ _ b0); have B0 := hide (HBB.out _ _ b0); clear b0; have g2 := (HX.out (.cells #[.int .i64 6, .int .i64 a, .int .i64 c, .int .i64 n] 38) w0 2 B0.out); simp [go_sem] at g2) | (go_at_call 78; (with_reducible refine (take_no HL.out OS.out (O0.out) (B0.out) (by first | rfl | simp)).mono ?_); rintro e w1 ⟨rfl, b1⟩; have B1 := hide b1; clear b1))
    go_ret
    exact ret_post HP.out rfl none_ob (HA.out _ _ B1.out)
  | some s1 =>
    have HL := hide hL
    have OT := hide (take_ok' hL hs)
    rw [hL] at HP
    cases hM : takeS [c] s1 with
    | none =>
      have HM := hide hM
      have HP : Hid (passS ty ⟨6, a, c, n⟩ s = none) := by show _ = _; rw [HP.out]; show ((takeS [c] s1).bind _) = _; rw [hM]; rfl
      clear hs hi hS hlt hL hM
      go_enter Tryd.func58, Tryd.ntmps58
      go_wp2_with (first | (go_at_call 80; refine (Four.res_any a c _).mono ?_; rintro e w0 ⟨rfl, b0⟩; have O0 := hide (HOB.out _ _ b0); have B0 := hide (HBB.out _ _ b0); clear b0; have g2 := (HX.out (.cells #[.int .i64 6, .int .i64 a, .int .i64 c, .int .i64 n] 38) w0 2 B0.out); simp [go_sem] at g2) | (go_at_call 78; (with_reducible refine (take_yes HL.out OS.out (O0.out) (B0.out) (by first | rfl | simp)).mono ?_); rintro e w1 ⟨rfl, o1, b1⟩; have O1 := hide o1; clear o1; have B1 := hide b1; clear b1; have f3 := (HX.out (.cells #[.int .i64 6, .int .i64 a, .int .i64 c, .int .i64 n] 38) w1 2 B1.out); simp [go_sem] at f3) | (go_at_call 78; (with_reducible refine (take_no HM.out OT.out (O1.out) (B1.out) (by first | rfl | simp)).mono ?_); rintro e w2 ⟨rfl, b2⟩; have B2 := hide b2; clear b2))
      go_ret
      exact ret_post HP.out rfl none_ob (HA.out _ _ B2.out)
    | some s2 =>
      have HM := hide hM
      have OU := hide (take_ok' hM OT.out)
      have HP : Hid (passS ty ⟨6, a, c, n⟩ s = leaveS (Four.resN a c).1 s2) := by show _ = _; rw [HP.out]; show ((takeS [c] s1).bind _) = _; rw [hM]; rfl
      cases hK : leaveS (Four.resN a c).1 s2 with
      | none =>
        have HK := hide hK
        rw [hK] at HP
        clear hs hi hS hlt hL hM hK
        go_enter Tryd.func58, Tryd.ntmps58
        go_wp2_with (first | (go_at_call 80; refine (Four.res_any a c _).mono ?_; rintro e w0 ⟨rfl, b0⟩; have O0 := hide (HOB.out _ _ b0); have B0 := hide (HBB.out _ _ b0); clear b0; have g2 := (HX.out (.cells #[.int .i64 6, .int .i64 a, .int .i64 c, .int .i64 n] 38) w0 2 B0.out); simp [go_sem] at g2) | (go_at_call 78; (with_reducible refine (take_yes HL.out OS.out (O0.out) (B0.out) (by first | rfl | simp)).mono ?_); rintro e w1 ⟨rfl, o1, b1⟩; have O1 := hide o1; clear o1; have B1 := hide b1; clear b1; have f3 := (HX.out (.cells #[.int .i64 6, .int .i64 a, .int .i64 c, .int .i64 n] 38) w1 2 B1.out); simp [go_sem] at f3) | (go_at_call 78; (with_reducible refine (take_yes HM.out OT.out (O1.out) (B1.out) (by first | rfl | simp)).mono ?_); rintro e w2 ⟨rfl, o2, b2⟩; have O2 := hide o2; clear o2; have B2 := hide b2; clear b2) | (go_at_call 77; (with_reducible refine (leave_no HK.out OU.out OR.out.2 (O2.out) (B2.out)).mono ?_); rintro e w3 ⟨rfl, b3⟩; have B3 := hide b3; clear b3))
        go_ret
        exact ret_post HP.out rfl none_ob (HA.out _ _ B3.out)
      | some s3 =>
        have HK := hide hK
        rw [hK] at HP
        clear hs hi hS hlt hL hM hK
        go_enter Tryd.func58, Tryd.ntmps58
        go_wp2_with (first | (go_at_call 80; refine (Four.res_any a c _).mono ?_; rintro e w0 ⟨rfl, b0⟩; have O0 := hide (HOB.out _ _ b0); have B0 := hide (HBB.out _ _ b0); clear b0; have g2 := (HX.out (.cells #[.int .i64 6, .int .i64 a, .int .i64 c, .int .i64 n] 38) w0 2 B0.out); simp [go_sem] at g2) | (go_at_call 78; (with_reducible refine (take_yes HL.out OS.out (O0.out) (B0.out) (by first | rfl | simp)).mono ?_); rintro e w1 ⟨rfl, o1, b1⟩; have O1 := hide o1; clear o1; have B1 := hide b1; clear b1; have f3 := (HX.out (.cells #[.int .i64 6, .int .i64 a, .int .i64 c, .int .i64 n] 38) w1 2 B1.out); simp [go_sem] at f3) | (go_at_call 78; (with_reducible refine (take_yes HM.out OT.out (O1.out) (B1.out) (by first | rfl | simp)).mono ?_); rintro e w2 ⟨rfl, o2, b2⟩; have O2 := hide o2; clear o2; have B2 := hide b2; clear b2) | (go_at_call 77; (with_reducible refine (leave_yes HK.out OU.out OR.out.2 (O2.out) (B2.out)).mono ?_); rintro e w3 ⟨rfl, o3, b3⟩; have O3 := hide o3; clear o3; have B3 := hide b3; clear b3))
        go_ret
        exact ret_post HP.out rfl (some_ob O3.out) (HA.out _ _ B3.out)

theorem pass_any (b : Nat) (tv : Value) (ty : List Int) (m : Nat) (i : Ins) (s : Stk) (w : World) (hS : Ob w b 76 (encS s)) (hs : OkS s) (hTb : ∀ W, But b w W → ILst W tv ty) (hty : ∀ t ∈ ty, 1 ≤ t ∧ t ≤ 4) (hi : mayI ty m i = true) :
    Calls Tryd.prog 58 #[.pointer (some ⟨b, 0, none⟩), tv, .agg #[.int .i64 i.op, .int .i64 i.a, .int .i64 i.b, .int .i64 i.n]] w fun e w' => e = .returned (.bool (passS ty i s).isSome) ∧ (∀ s', passS ty i s = some s' → Ob w' b 76 (encS s')) ∧ But b w w' := by
  obtain ⟨op, a, c, n⟩ := i
  have ho := may_op hi
  have ho : 1 ≤ op ∧ op ≤ 12 := ho
  have : op = 1 ∨ op = 2 ∨ op = 3 ∨ op = 4 ∨ op = 5 ∨ op = 6 ∨ op = 7 ∨ op = 8 ∨ op = 9 ∨ op = 10 ∨ op = 11 ∨ op = 12 := by omega
  rcases this with rfl | rfl | rfl | rfl | rfl | rfl | rfl | rfl | rfl | rfl | rfl | rfl
  · exact pass_1 b tv ty m a c n s w hS hs hTb hty hi
  · exact pass_2 b tv ty m a c n s w hS hs hTb hty hi
  · exact pass_3 b tv ty m a c n s w hS hs hTb hty hi
  · exact pass_4 b tv ty m a c n s w hS hs hTb hty hi
  · exact pass_5 b tv ty m a c n s w hS hs hTb hty hi
  · exact pass_6 b tv ty m a c n s w hS hs hTb hty hi
  · exact pass_7 b tv ty m a c n s w hS hs hTb hty hi
  · exact pass_8 b tv ty m a c n s w hS hs hTb hty hi
  · exact pass_9 b tv ty m a c n s w hS hs hTb hty hi
  · exact pass_10 b tv ty m a c n s w hS hs hTb hty hi
  · exact pass_11 b tv ty m a c n s w hS hs hTb hty hi
  · exact pass_12 b tv ty m a c n s w hS hs hTb hty hi
end Go.Proofs.YtlckedionmgjjaaDoor
