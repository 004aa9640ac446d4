/- The book's SameImage, at one image. -/
import Derived.Test.YtmbgcpmapaedcaaGreatDoorMg11
import Derived.Deep.QuietTactic
import Derived.BigQuiet
namespace Go.Proofs.YtmbgcpmapaedcaaGreatDoor
open Go.RowKit
set_option maxRecDepth 100000 in
set_option maxHeartbeats 1600000 in
theorem ints_one (va vb : Value) (l : List Int) (w : World) (hA : ILst w va l) (hB : ILst w vb l) (hlen : l.length ≤ 35184372088832) : Calls Tryz.prog 26 #[va, vb] w fun e w' => e = .returned (.bool true) ∧ ∃ m, w' = w.drewN m := by
  obtain ⟨aa, ab, aoff, acap, rfl, haA, haI⟩ := hA
  obtain ⟨ba, bb, boff, bcap, rfl, hbA, hbI⟩ := hB
  have HAA := hide haA
  have HAI := hide haI
  have HBA := hide hbA
  have HBI := hide hbI
  obtain ⟨n, hn⟩ : ∃ n, n = l.length := ⟨_, rfl⟩
  rw [← hn] at hlen ⊢
  have HN := hide hn
  have n0 : (0 : Int) ≤ (n : Int) := by omega
  have n5 : (n : Int) ≤ 35184372088832 := by omega
  clear hn haA haI hbA hbI
  go_enter Tryz.func26, Tryz.ntmps26
  go_wp2_with fail
  go_loopw [5] (fun i wr => ∃ k : Nat, k ≤ n ∧ i = .int .i64 (k : Int) ∧ Hid (∃ m, wr = w.drewN m)) (fun i _ => n - (intOf i).toNat)
  case atStart => exact ⟨0, by omega, rfl, 0, rfl⟩
  case round =>
    obtain ⟨k, hk, rfl, hm⟩ := hrel
    obtain ⟨m, rfl⟩ := hm.out
    clear hm
    by_cases hlt : k < n
    · have j1 : (k : Int) < (n : Int) := by omega
      have j0 : (0 : Int) ≤ (k : Int) := by omega
      obtain ⟨x, hx⟩ : ∃ x, l[k]? = some x := ⟨_, List.getElem?_eq_getElem (by rw [← HN.out]; exact hlt)⟩
      obtain ⟨-, rfl⟩ := HAA.out (by rw [← HN.out]; omega)
      obtain ⟨-, rfl⟩ := HBA.out (by rw [← HN.out]; omega)
      have c1 : w.cell? ⟨ab, aoff + k, none⟩ = some (.int .i64 x) := HAI.out k x hx
      have c2 : w.cell? ⟨bb, boff + k, none⟩ = some (.int .i64 x) := HBI.out k x hx
      clear hx
      go_wp2_with fail
      go_quiet (fail)
      go_wp2
      go_roundw
      case rel => exact ⟨k + 1, by omega, by go_num, _, rfl⟩
      case measure => simp [intOf]; omega
    · have j1 : ¬ (k : Int) < (n : Int) := by omega
      go_wp2
      go_ret
      exact ⟨rfl, m, rfl⟩
set_option maxRecDepth 100000 in
set_option maxHeartbeats 1600000 in
theorem nums_one (va vb : Value) (l : List Int) (w : World) (hA : ILst w va l) (hB : ILst w vb l) (hlen : l.length ≤ 35184372088832) : Calls Tryz.prog 27 #[va, vb] w fun e w' => e = .returned (.bool true) ∧ ∃ m, w' = w.drewN m := by
  obtain ⟨aa, ab, aoff, acap, rfl, haA, haI⟩ := hA
  obtain ⟨ba, bb, boff, bcap, rfl, hbA, hbI⟩ := hB
  have HAA := hide haA
  have HAI := hide haI
  have HBA := hide hbA
  have HBI := hide hbI
  obtain ⟨n, hn⟩ : ∃ n, n = l.length := ⟨_, rfl⟩
  rw [← hn] at hlen ⊢
  have HN := hide hn
  have n0 : (0 : Int) ≤ (n : Int) := by omega
  have n5 : (n : Int) ≤ 35184372088832 := by omega
  clear hn haA haI hbA hbI
  go_enter Tryz.func27, Tryz.ntmps27
  go_wp2_with fail
  go_loopw [5] (fun i wr => ∃ k : Nat, k ≤ n ∧ i = .int .i64 (k : Int) ∧ Hid (∃ m, wr = w.drewN m)) (fun i _ => n - (intOf i).toNat)
  case atStart => exact ⟨0, by omega, rfl, 0, rfl⟩
  case round =>
    obtain ⟨k, hk, rfl, hm⟩ := hrel
    obtain ⟨m, rfl⟩ := hm.out
    clear hm
    by_cases hlt : k < n
    · have j1 : (k : Int) < (n : Int) := by omega
      have j0 : (0 : Int) ≤ (k : Int) := by omega
      obtain ⟨x, hx⟩ : ∃ x, l[k]? = some x := ⟨_, List.getElem?_eq_getElem (by rw [← HN.out]; exact hlt)⟩
      obtain ⟨-, rfl⟩ := HAA.out (by rw [← HN.out]; omega)
      obtain ⟨-, rfl⟩ := HBA.out (by rw [← HN.out]; omega)
      have c1 : w.cell? ⟨ab, aoff + k, none⟩ = some (.int .i64 x) := HAI.out k x hx
      have c2 : w.cell? ⟨bb, boff + k, none⟩ = some (.int .i64 x) := HBI.out k x hx
      clear hx
      go_wp2_with fail
      go_quiet (fail)
      go_wp2
      go_roundw
      case rel => exact ⟨k + 1, by omega, by go_num, _, rfl⟩
      case measure => simp [intOf]; omega
    · have j1 : ¬ (k : Int) < (n : Int) := by omega
      go_wp2
      go_ret
      exact ⟨rfl, m, rfl⟩
set_option maxRecDepth 100000 in
set_option maxHeartbeats 3200000 in
theorem image_one (nm tv fv iv ov cv nm' tv' fv' iv' ov' cv' : Value) (x : Img) (w : World) (hA : Im w nm tv fv iv ov cv x) (hB : Im w nm' tv' fv' iv' ov' cv' x) (hl : ImL x) :
    Calls Tryz.prog 12 #[.agg #[nm, tv, fv, iv, ov, cv], .agg #[nm', tv', fv', iv', ov', cv']] w fun e w' => e = .returned (.bool true) ∧ Below w.heap.size w w' := by
  have B2 : Hid (∀ A C m, Below w.heap.size w (((w.alloc A).alloc C).drewN m)) := fun A C m => below_drewN (((Below.refl _ _).alloc (Nat.le_refl _) _).alloc (by simp) _) m
  have m1 : Hid (∀ A C, Calls Tryz.prog 26 #[tv, tv'] ((w.alloc A).alloc C) fun e w' => e = .returned (.bool true) ∧ ∃ k, w' = ((w.alloc A).alloc C).drewN k) := fun A C => ints_one tv tv' x.ty _ (hA.ty.on (B2.out A C 0)) (hB.ty.on (B2.out A C 0)) hl.ty
  have m2 : Hid (∀ A C m, Calls Tryz.prog 27 #[fv, fv'] (((w.alloc A).alloc C).drewN m) fun e w' => e = .returned (.bool true) ∧ ∃ k, w' = ((w.alloc A).alloc C).drewN k) := fun A C m => (nums_one fv fv' x.fi _ (hA.fi.on (B2.out _ _ _)) (hB.fi.on (B2.out _ _ _)) hl.fi).mono fun e w' ⟨h, k, hk⟩ => ⟨h, m + k, by rw [hk]; simp only [World.drewN, Nat.add_assoc]⟩
  have m3 : Hid (∀ A C m, Calls Tryz.prog 26 #[iv, iv'] (((w.alloc A).alloc C).drewN m) fun e w' => e = .returned (.bool true) ∧ ∃ k, w' = ((w.alloc A).alloc C).drewN k) := fun A C m => (ints_one iv iv' x.ins _ (hA.ins.on (B2.out _ _ _)) (hB.ins.on (B2.out _ _ _)) hl.ins).mono fun e w' ⟨h, k, hk⟩ => ⟨h, m + k, by rw [hk]; simp only [World.drewN, Nat.add_assoc]⟩
  have m4 : Hid (∀ A C m, Calls Tryz.prog 26 #[ov, ov'] (((w.alloc A).alloc C).drewN m) fun e w' => e = .returned (.bool true) ∧ ∃ k, w' = ((w.alloc A).alloc C).drewN k) := fun A C m => (ints_one ov ov' x.outs _ (hA.outs.on (B2.out _ _ _)) (hB.outs.on (B2.out _ _ _)) hl.outs).mono fun e w' ⟨h, k, hk⟩ => ⟨h, m + k, by rw [hk]; simp only [World.drewN, Nat.add_assoc]⟩
  have hn : nm = nm' := hA.name.trans hB.name.symm
  have hns : nm' = .string ⟨x.name.toArray⟩ := hB.name
  subst hn
  generalize (⟨x.name.toArray⟩ : ByteArray) = S at hns
  subst hns
  have hcA := hA.cd.on (B2.out (.cells #[.string S, tv, fv, iv, ov, cv] 26) (.cells #[.string S, tv', fv', iv', ov', cv'] 26) 0)
  have hcB := hB.cd.on (B2.out (.cells #[.string S, tv, fv, iv, ov, cv] 26) (.cells #[.string S, tv', fv', iv', ov', cv'] 26) 0)
  obtain ⟨ta, tc, rfl⟩ := hA.ty.shape
  obtain ⟨fa, fc, rfl⟩ := hA.fi.shape
  obtain ⟨ia, ic, rfl⟩ := hA.ins.shape
  obtain ⟨oa, oc, rfl⟩ := hA.outs.shape
  obtain ⟨ta', tc', rfl⟩ := hB.ty.shape
  obtain ⟨fa', fc', rfl⟩ := hB.fi.shape
  obtain ⟨ia', ic', rfl⟩ := hB.ins.shape
  obtain ⟨oa', oc', rfl⟩ := hB.outs.shape
  obtain ⟨ca, cb, coff, cc, rfl, hcA1, hcA2⟩ := hcA
  obtain ⟨ca', cb', coff', cc', rfl, hcB1, hcB2⟩ := hcB
  have hcl := hl.cd
  clear hA hB hl
  have HA1 := hide hcA1
  have HA2 := hide hcA2
  have HB1 := hide hcB1
  have HB2 := hide hcB2
  clear hcA1 hcA2 hcB1 hcB2
  obtain ⟨n, hN⟩ : ∃ n, n = x.cd.length := ⟨_, rfl⟩
  rw [← hN] at hcl ⊢
  have HN := hide hN
  clear hN
  generalize x.ty.length = tn at *
  generalize x.fi.length = fn at *
  generalize x.ins.length = in_ at *
  generalize x.outs.length = on_ at *
  go_enter Tryz.func12, Tryz.ntmps12
  go_wp2_with (first | (go_at_call 27; with_reducible refine (m2.out _ _ _).mono ?_; rintro e w1 ⟨rfl, k2, rfl⟩) | (go_at_call 26; first | (with_reducible refine (m1.out _ _).mono ?_; rintro e w1 ⟨rfl, k1, rfl⟩) | (with_reducible refine (m3.out _ _ _).mono ?_; rintro e w1 ⟨rfl, k3, rfl⟩) | (with_reducible refine (m4.out _ _ _).mono ?_; rintro e w1 ⟨rfl, k4, rfl⟩)))
  obtain ⟨w0, hw0⟩ : ∃ w0, w0 = (w.alloc (.cells #[.string S, .slice ta tn tc, .slice fa fn fc, .slice ia in_ ic, .slice oa on_ oc, .slice ca n cc] 26)).alloc (.cells #[.string S, .slice ta' tn tc', .slice fa' fn fc', .slice ia' in_ ic', .slice oa' on_ oc', .slice ca' n cc'] 26) := ⟨_, rfl⟩
  have d5 : w0.cell? ⟨w.heap.size, 5, none⟩ = some (.slice ca n cc) := by
    rw [hw0, World.cell?_alloc_lt _ _ ⟨w.heap.size, 5, none⟩ (by simp)]; exact (Lib.cell_of_heap (j := 5) (heap_alloc_new w _)).trans rfl
  have d6 : w0.cell? ⟨w.heap.size + 1, 5, none⟩ = some (.slice ca' n cc') := by
    rw [hw0, show w.heap.size + 1 = (w.alloc (.cells #[.string S, .slice ta tn tc, .slice fa fn fc, .slice ia in_ ic, .slice oa on_ oc, .slice ca n cc] 26)).heap.size by simp]; exact (Lib.cell_of_heap (j := 5) (heap_alloc_new _ _)).trans rfl
  have B0 : Hid (∀ m, Below w.heap.size w (w0.drewN m)) := fun m => by rw [hw0]; exact B2.out _ _ m
  have HA3 : Hid (∀ i q, x.cd[i]? = some q → w0.cell? ⟨cb, coff + i * 4, none⟩ = some (.int .i64 q.op) ∧ w0.cell? ⟨cb, coff + i * 4 + 1, none⟩ = some (.int .i64 q.a) ∧ w0.cell? ⟨cb, coff + i * 4 + 2, none⟩ = some (.int .i64 q.b) ∧ w0.cell? ⟨cb, coff + i * 4 + 3, none⟩ = some (.int .i64 q.n)) := by rw [hw0, HN.out]; exact HA2.out
  have HB3 : Hid (∀ i q, x.cd[i]? = some q → w0.cell? ⟨cb', coff' + i * 4, none⟩ = some (.int .i64 q.op) ∧ w0.cell? ⟨cb', coff' + i * 4 + 1, none⟩ = some (.int .i64 q.a) ∧ w0.cell? ⟨cb', coff' + i * 4 + 2, none⟩ = some (.int .i64 q.b) ∧ w0.cell? ⟨cb', coff' + i * 4 + 3, none⟩ = some (.int .i64 q.n)) := by rw [hw0, HN.out]; exact HB2.out
  have n0 : (0 : Int) ≤ (n : Int) := by omega
  have n5 : (n : Int) ≤ 8796093022208 := by omega
  rw [← hw0]
  clear hw0 HA2 HB2 m1 m2 m3 m4 B2
  go_loopw [5] (fun i wr => ∃ k : Nat, k ≤ n ∧ i = .int .i64 (k : Int) ∧ Hid (∃ m, wr = w0.drewN m)) (fun i _ => n - (intOf i).toNat)
  case atStart => exact ⟨0, by omega, rfl, _, rfl⟩
  case round =>
    obtain ⟨k, hk, rfl, hm⟩ := hrel
    obtain ⟨m, rfl⟩ := hm.out
    clear hm
    have j0 : (0 : Int) ≤ (k : Int) := by omega
    by_cases hlt : k < n
    · have j1 : (k : Int) < (n : Int) := by omega
      obtain ⟨y, hy⟩ : ∃ y, x.cd[k]? = some y := ⟨_, List.getElem?_eq_getElem (by rw [← HN.out]; exact hlt)⟩
      obtain ⟨-, rfl⟩ := HA1.out (by rw [← HN.out]; omega)
      obtain ⟨-, rfl⟩ := HB1.out (by rw [← HN.out]; omega)
      obtain ⟨a1, a2, a3, a4⟩ := HA3.out k y hy
      obtain ⟨b1, b2, b3, b4⟩ := HB3.out k y hy
      clear hy
      go_wp2_with fail
      go_quiet (fail)
      go_wp2
      go_roundw
      case rel => exact ⟨k + 1, by omega, by go_num, _, rfl⟩
      case measure => simp [intOf]; omega
    · have j1 : ¬ (k : Int) < (n : Int) := by omega
      go_wp2
      go_ret
      exact ⟨rfl, B0.out m⟩
end Go.Proofs.YtmbgcpmapaedcaaGreatDoor
