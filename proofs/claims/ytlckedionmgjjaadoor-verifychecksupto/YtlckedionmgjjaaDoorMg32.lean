/- The book's SameImage, at one image. | An image among the arguments, opened. -/
import Derived.Test.YtlckedionmgjjaaDoorMg13
import Derived.Deep.QuietTactic
import Derived.BigQuiet
import Derived.Test.YtlckedionmgjjaaDoorMg14
import Derived.Test.YtlckedionmgjjaaDoorMg18
import Derived.Deep.Slices
import Derived.LaidLaws
import Derived.SizedLaws
import Derived.ChangeSame
namespace Go.Proofs.YtlckedionmgjjaaDoor
open Go.RowKit
set_option maxRecDepth 100000 in
set_option maxHeartbeats 1600000 in
theorem ints_one (va vb : Value) (l : List Int) (w : World) (hA : ILst w va l) (hB : ILst w vb l) (hlen : l.length ≤ 35184372088832) : Calls Tryd.prog 19 #[va, vb] w fun e w' => e = .returned (.bool true) ∧ ∃ m, w' = w.drewN m := by
  obtain ⟨aa, ab, aoff, acap, rfl, haA, haI⟩ := hA
  obtain ⟨ba, bb, boff, bcap, rfl, hbA, hbI⟩ := hB
  have HAA := hide haA
  have HAI := hide haI
  have HBA := hide hbA
  have HBI := hide hbI
  obtain ⟨n, hn⟩ : ∃ n, n = l.length := ⟨_, rfl⟩
  rw [← hn] at hlen ⊢
  have HN := hide hn
  have n0 : (0 : Int) ≤ (n : Int) := by omega
  have n5 : (n : Int) ≤ 35184372088832 := by omega
  clear hn haA haI hbA hbI
  go_enter Tryd.func19, Tryd.ntmps19
  go_wp2_with fail
  go_loopw [5] (fun i wr => ∃ k : Nat, k ≤ n ∧ i = .int .i64 (k : Int) ∧ Hid (∃ m, wr = w.drewN m)) (fun i _ => n - (intOf i).toNat)
  case atStart => exact ⟨0, by omega, rfl, 0, rfl⟩
  case round =>
    obtain ⟨k, hk, rfl, hm⟩ := hrel
    obtain ⟨m, rfl⟩ := hm.out
    clear hm
    by_cases hlt : k < n
    · have j1 : (k : Int) < (n : Int) := by omega
      have j0 : (0 : Int) ≤ (k : Int) := by omega
      obtain ⟨x, hx⟩ : ∃ x, l[k]? = some x := ⟨_, List.getElem?_eq_getElem (by rw [← HN.out]; exact hlt)⟩
      obtain ⟨-, rfl⟩ := HAA.out (by rw [← HN.out]; omega)
      obtain ⟨-, rfl⟩ := HBA.out (by rw [← HN.out]; omega)
      have c1 : w.cell? ⟨ab, aoff + k, none⟩ = some (.int .i64 x) := HAI.out k x hx
      have c2 : w.cell? ⟨bb, boff + k, none⟩ = some (.int .i64 x) := HBI.out k x hx
      clear hx
      go_wp2_with fail
      go_quiet (fail)
      go_wp2
      go_roundw
      case rel => exact ⟨k + 1, by omega, by go_num, _, rfl⟩
      case measure => simp [intOf]; omega
    · have j1 : ¬ (k : Int) < (n : Int) := by omega
      go_wp2
      go_ret
      exact ⟨rfl, m, rfl⟩
set_option maxRecDepth 100000 in
set_option maxHeartbeats 1600000 in
theorem nums_one (va vb : Value) (l : List Int) (w : World) (hA : ILst w va l) (hB : ILst w vb l) (hlen : l.length ≤ 35184372088832) : Calls Tryd.prog 20 #[va, vb] w fun e w' => e = .returned (.bool true) ∧ ∃ m, w' = w.drewN m := by
  obtain ⟨aa, ab, aoff, acap, rfl, haA, haI⟩ := hA
  obtain ⟨ba, bb, boff, bcap, rfl, hbA, hbI⟩ := hB
  have HAA := hide haA
  have HAI := hide haI
  have HBA := hide hbA
  have HBI := hide hbI
  obtain ⟨n, hn⟩ : ∃ n, n = l.length := ⟨_, rfl⟩
  rw [← hn] at hlen ⊢
  have HN := hide hn
  have n0 : (0 : Int) ≤ (n : Int) := by omega
  have n5 : (n : Int) ≤ 35184372088832 := by omega
  clear hn haA haI hbA hbI
  go_enter Tryd.func20, Tryd.ntmps20
  go_wp2_with fail
  go_loopw [5] (fun i wr => ∃ k : Nat, k ≤ n ∧ i = .int .i64 (k : Int) ∧ Hid (∃ m, wr = w.drewN m)) (fun i _ => n - (intOf i).toNat)
  case atStart => exact ⟨0, by omega, rfl, 0, rfl⟩
  case round =>
    obtain ⟨k, hk, rfl, hm⟩ := hrel
    obtain ⟨m, rfl⟩ := hm.out
    clear hm
    by_cases hlt : k < n
    · have j1 : (k : Int) < (n : Int) := by omega
      have j0 : (0 : Int) ≤ (k : Int) := by omega
      obtain ⟨x, hx⟩ : ∃ x, l[k]? = some x := ⟨_, List.getElem?_eq_getElem (by rw [← HN.out]; exact hlt)⟩
      obtain ⟨-, rfl⟩ := HAA.out (by rw [← HN.out]; omega)
      obtain ⟨-, rfl⟩ := HBA.out (by rw [← HN.out]; omega)
      have c1 : w.cell? ⟨ab, aoff + k, none⟩ = some (.int .i64 x) := HAI.out k x hx
      have c2 : w.cell? ⟨bb, boff + k, none⟩ = some (.int .i64 x) := HBI.out k x hx
      clear hx
      go_wp2_with fail
      go_quiet (fail)
      go_wp2
      go_roundw
      case rel => exact ⟨k + 1, by omega, by go_num, _, rfl⟩
      case measure => simp [intOf]; omega
    · have j1 : ¬ (k : Int) < (n : Int) := by omega
      go_wp2
      go_ret
      exact ⟨rfl, m, rfl⟩
set_option maxRecDepth 100000 in
set_option maxHeartbeats 3200000 in
theorem image_one (nm tv fv iv ov cv nm' tv' fv' iv' ov' cv' : Value) (x : Img) (w : World) (hA : Im w nm tv fv iv ov cv x) (hB : Im w nm' tv' fv' iv' ov' cv' x) (hl : ImL x) :
    Calls Tryd.prog 13 #[.agg #[nm, tv, fv, iv, ov, cv], .agg #[nm', tv', fv', iv', ov', cv']] w fun e w' => e = .returned (.bool true) ∧ Below w.heap.size w w' := by
  have B2 : Hid (∀ A C m, Below w.heap.size w (((w.alloc A).alloc C).drewN m)) := fun A C m => below_drewN (((Below.refl _ _).alloc (Nat.le_refl _) _).alloc (by simp) _) m
  have m1 : Hid (∀ A C, Calls Tryd.prog 19 #[tv, tv'] ((w.alloc A).alloc C) fun e w' => e = .returned (.bool true) ∧ ∃ k, w' = ((w.alloc A).alloc C).drewN k) := fun A C => ints_one tv tv' x.ty _ (hA.ty.on (B2.out A C 0)) (hB.ty.on (B2.out A C 0)) hl.ty
  have m2 : Hid (∀ A C m, Calls Tryd.prog 20 #[fv, fv'] (((w.alloc A).alloc C).drewN m) fun e w' => e = .returned (.bool true) ∧ ∃ k, w' = ((w.alloc A).alloc C).drewN k) := fun A C m => (nums_one fv fv' x.fi _ (hA.fi.on (B2.out _ _ _)) (hB.fi.on (B2.out _ _ _)) hl.fi).mono fun e w' ⟨h, k, hk⟩ => ⟨h, m + k, by rw [hk]; simp only [World.drewN, Nat.add_assoc]⟩
  have m3 : Hid (∀ A C m, Calls Tryd.prog 19 #[iv, iv'] (((w.alloc A).alloc C).drewN m) fun e w' => e = .returned (.bool true) ∧ ∃ k, w' = ((w.alloc A).alloc C).drewN k) := fun A C m => (ints_one iv iv' x.ins _ (hA.ins.on (B2.out _ _ _)) (hB.ins.on (B2.out _ _ _)) hl.ins).mono fun e w' ⟨h, k, hk⟩ => ⟨h, m + k, by rw [hk]; simp only [World.drewN, Nat.add_assoc]⟩
  have m4 : Hid (∀ A C m, Calls Tryd.prog 19 #[ov, ov'] (((w.alloc A).alloc C).drewN m) fun e w' => e = .returned (.bool true) ∧ ∃ k, w' = ((w.alloc A).alloc C).drewN k) := fun A C m => (ints_one ov ov' x.outs _ (hA.outs.on (B2.out _ _ _)) (hB.outs.on (B2.out _ _ _)) hl.outs).mono fun e w' ⟨h, k, hk⟩ => ⟨h, m + k, by rw [hk]; simp only [World.drewN, Nat.add_assoc]⟩
  have hn : nm = nm' := hA.name.trans hB.name.symm
  have hns : nm' = .string ⟨x.name.toArray⟩ := hB.name
  subst hn
  generalize (⟨x.name.toArray⟩ : ByteArray) = S at hns
  subst hns
  have hcA := hA.cd.on (B2.out (.cells #[.string S, tv, fv, iv, ov, cv] 26) (.cells #[.string S, tv', fv', iv', ov', cv'] 26) 0)
  have hcB := hB.cd.on (B2.out (.cells #[.string S, tv, fv, iv, ov, cv] 26) (.cells #[.string S, tv', fv', iv', ov', cv'] 26) 0)
  obtain ⟨ta, tc, rfl⟩ := hA.ty.shape
  obtain ⟨fa, fc, rfl⟩ := hA.fi.shape
  obtain ⟨ia, ic, rfl⟩ := hA.ins.shape
  obtain ⟨oa, oc, rfl⟩ := hA.outs.shape
  obtain ⟨ta', tc', rfl⟩ := hB.ty.shape
  obtain ⟨fa', fc', rfl⟩ := hB.fi.shape
  obtain ⟨ia', ic', rfl⟩ := hB.ins.shape
  obtain ⟨oa', oc', rfl⟩ := hB.outs.shape
  obtain ⟨ca, cb, coff, cc, rfl, hcA1, hcA2⟩ := hcA
  obtain ⟨ca', cb', coff', cc', rfl, hcB1, hcB2⟩ := hcB
  have hcl := hl.cd
  clear hA hB hl
  have HA1 := hide hcA1
  have HA2 := hide hcA2
  have HB1 := hide hcB1
  have HB2 := hide hcB2
  clear hcA1 hcA2 hcB1 hcB2
  obtain ⟨n, hN⟩ : ∃ n, n = x.cd.length := ⟨_, rfl⟩
  rw [← hN] at hcl ⊢
  have HN := hide hN
  clear hN
  generalize x.ty.length = tn at *
  generalize x.fi.length = fn at *
  generalize x.ins.length = in_ at *
  generalize x.outs.length = on_ at *
  go_enter Tryd.func13, Tryd.ntmps13
  go_wp2_with (first | (go_at_call 20; with_reducible refine (m2.out _ _ _).mono ?_; rintro e w1 ⟨rfl, k2, rfl⟩) | (go_at_call 19; first | (with_reducible refine (m1.out _ _).mono ?_; rintro e w1 ⟨rfl, k1, rfl⟩) | (with_reducible refine (m3.out _ _ _).mono ?_; rintro e w1 ⟨rfl, k3, rfl⟩) | (with_reducible refine (m4.out _ _ _).mono ?_; rintro e w1 ⟨rfl, k4, rfl⟩)))
  obtain ⟨w0, hw0⟩ : ∃ w0, w0 = (w.alloc (.cells #[.string S, .slice ta tn tc, .slice fa fn fc, .slice ia in_ ic, .slice oa on_ oc, .slice ca n cc] 26)).alloc (.cells #[.string S, .slice ta' tn tc', .slice fa' fn fc', .slice ia' in_ ic', .slice oa' on_ oc', .slice ca' n cc'] 26) := ⟨_, rfl⟩
  have d5 : w0.cell? ⟨w.heap.size, 5, none⟩ = some (.slice ca n cc) := by
    rw [hw0, World.cell?_alloc_lt _ _ ⟨w.heap.size, 5, none⟩ (by simp)]; exact (Lib.cell_of_heap (j := 5) (heap_alloc_new w _)).trans rfl
  have d6 : w0.cell? ⟨w.heap.size + 1, 5, none⟩ = some (.slice ca' n cc') := by
    rw [hw0, show w.heap.size + 1 = (w.alloc (.cells #[.string S, .slice ta tn tc, .slice fa fn fc, .slice ia in_ ic, .slice oa on_ oc, .slice ca n cc] 26)).heap.size by simp]; exact (Lib.cell_of_heap (j := 5) (heap_alloc_new _ _)).trans rfl
  have B0 : Hid (∀ m, Below w.heap.size w (w0.drewN m)) := fun m => by rw [hw0]; exact B2.out _ _ m
  have HA3 : Hid (∀ i q, x.cd[i]? = some q → w0.cell? ⟨cb, coff + i * 4, none⟩ = some (.int .i64 q.op) ∧ w0.cell? ⟨cb, coff + i * 4 + 1, none⟩ = some (.int .i64 q.a) ∧ w0.cell? ⟨cb, coff + i * 4 + 2, none⟩ = some (.int .i64 q.b) ∧ w0.cell? ⟨cb, coff + i * 4 + 3, none⟩ = some (.int .i64 q.n)) := by rw [hw0, HN.out]; exact HA2.out
  have HB3 : Hid (∀ i q, x.cd[i]? = some q → w0.cell? ⟨cb', coff' + i * 4, none⟩ = some (.int .i64 q.op) ∧ w0.cell? ⟨cb', coff' + i * 4 + 1, none⟩ = some (.int .i64 q.a) ∧ w0.cell? ⟨cb', coff' + i * 4 + 2, none⟩ = some (.int .i64 q.b) ∧ w0.cell? ⟨cb', coff' + i * 4 + 3, none⟩ = some (.int .i64 q.n)) := by rw [hw0, HN.out]; exact HB2.out
  have n0 : (0 : Int) ≤ (n : Int) := by omega
  have n5 : (n : Int) ≤ 8796093022208 := by omega
  rw [← hw0]
  clear hw0 HA2 HB2 m1 m2 m3 m4 B2
  go_loopw [5] (fun i wr => ∃ k : Nat, k ≤ n ∧ i = .int .i64 (k : Int) ∧ Hid (∃ m, wr = w0.drewN m)) (fun i _ => n - (intOf i).toNat)
  case atStart => exact ⟨0, by omega, rfl, _, rfl⟩
  case round =>
    obtain ⟨k, hk, rfl, hm⟩ := hrel
    obtain ⟨m, rfl⟩ := hm.out
    clear hm
    have j0 : (0 : Int) ≤ (k : Int) := by omega
    by_cases hlt : k < n
    · have j1 : (k : Int) < (n : Int) := by omega
      obtain ⟨y, hy⟩ : ∃ y, x.cd[k]? = some y := ⟨_, List.getElem?_eq_getElem (by rw [← HN.out]; exact hlt)⟩
      obtain ⟨-, rfl⟩ := HA1.out (by rw [← HN.out]; omega)
      obtain ⟨-, rfl⟩ := HB1.out (by rw [← HN.out]; omega)
      obtain ⟨a1, a2, a3, a4⟩ := HA3.out k y hy
      obtain ⟨b1, b2, b3, b4⟩ := HB3.out k y hy
      clear hy
      go_wp2_with fail
      go_quiet (fail)
      go_wp2
      go_roundw
      case rel => exact ⟨k + 1, by omega, by go_num, _, rfl⟩
      case measure => simp [intOf]; omega
    · have j1 : ¬ (k : Int) < (n : Int) := by omega
      go_wp2
      go_ret
      exact ⟨rfl, B0.out m⟩
end Go.Proofs.YtlckedionmgjjaaDoor
namespace Go.Proofs.YtlckedionmgjjaaDoor
open Go.ChangeShapes Go.WideShapes Go.ChangeAt Go.RowKit
theorem laidOut : laidOutB Tryd.prog = true := by kernel_rfl
theorem bytes3 : Tryd.prog.bytesOf 3 = 8 := by kernel_rfl
theorem bytes2 : Tryd.prog.bytesOf 2 = 8 := by kernel_rfl
theorem bytesI : Tryd.prog.bytesOf 38 = 32 := by kernel_rfl
theorem add_at (b off j : Nat) : (⟨b, off, none⟩ : Addr).add j = ⟨b, off + j, none⟩ := by unfold Addr.add; split <;> simp_all
theorem wf_int {n : Int} (hw : (Lit.int .i64 n).wf = true) : -9223372036854775808 ≤ n ∧ n ≤ 9223372036854775807 := by
  have h : (decide (IntKind.i64.min ≤ n) && decide (n ≤ IntKind.i64.max)) = true := hw
  rw [Bool.and_eq_true] at h
  exact ⟨of_decide_eq_true h.1, of_decide_eq_true h.2⟩
theorem open_il {H : Type} {enc : TypeId × Value → H} {W : World} {fuel len cap : Nat} {a : Option Addr} {x : DataW H × List MemPlace} {cs : List Value} (h : DataW.trod enc Tryd.prog W 0 (fun _ => true) true fuel 22 cs = some x) (hcs0 : cs = [.slice a len cap]) :
    ∃ l : List Int, l.length = len ∧ len ≤ cap ∧ ILst W (.slice a len cap) l ∧ (∀ y ∈ l, -9223372036854775808 ≤ y ∧ y ≤ 9223372036854775807) ∧ ((x.1 = .nil ∧ len = 0) ∨ ∃ el sp, x.1 = .slice el sp ∧ el = l.map fun y => .lit (.int .i64 y)) := by
  subst hcs0
  rcases Deep.open_slice Tryd.underlying22 h with ⟨hcs, rfl⟩ | ⟨a', len', cap', m, n, D, Pl, hcs, hb, hl, hm, hmm, rfl, hx⟩
  · simp at hcs
    obtain ⟨rfl, rfl, rfl⟩ := hcs
    exact ⟨[], rfl, Nat.le_refl _, ILst.nil _ _, fun y hy => (by cases hy), .inl ⟨rfl, rfl⟩⟩
  · simp at hcs
    obtain ⟨rfl, rfl, rfl⟩ := hcs
    simp only [if_true] at hmm
    subst hmm
    rw [cells3] at hx
    have each : ∀ i, i < len → ∃ y : Int, W.cell? (a'.add (i * 1)) = some (.int .i64 y) ∧ (-9223372036854775808 ≤ y ∧ y ≤ 9223372036854775807) ∧ D i = .lit (.int .i64 y) := fun i hi => by
      obtain ⟨cs', h1, h2⟩ := hx i (by omega)
      obtain ⟨_, hlen, hcell⟩ := World.cells?_some h1
      obtain ⟨v0, rfl⟩ : ∃ v0, cs' = [v0] := by
        match cs', hlen with
        | [v0], _ => exact ⟨v0, rfl⟩
      obtain ⟨z0, e0, E0, hw⟩ := DataW.trod_int Tryd.underlying3 h2
      have d0 := hcell 0 (by omega)
      rw [Deep.add_add] at d0
      injection e0 with e0
      subst e0
      exact ⟨z0, d0, wf_int hw, congrArg Prod.fst E0⟩
    obtain ⟨f, hf⟩ := @Deep.choose_lt Int ⟨0⟩ _ _ each
    refine ⟨(List.range len).map f, by simp, hl, ?_, ?_, .inr ⟨_, _, rfl, ?_⟩⟩
    · by_cases hl0 : len = 0
      · subst hl0
        exact ⟨some a', 0, 0, m, rfl, fun h => absurd h (Nat.lt_irrefl 0), fun i x hx => by cases hx⟩
      · obtain ⟨b, off, spot⟩ := a'
        have hspot : spot = none := by simpa [Addr.add] using World.cell?_spot (hf 0 (by omega)).1
        subst hspot
        have hbW : b < W.heap.size := World.block_lt_of_cell? W _ (by have := (hf 0 (by omega)).1; rwa [add_at] at this)
        refine ⟨some ⟨b, off, none⟩, b, off, m, by simp, fun _ => ⟨hbW, rfl⟩, fun i y hy => ?_⟩
        have hi : i < len := by have := (List.getElem?_eq_some_iff.1 hy).1; simpa using this
        have hfy : f i = y := by simpa [hi] using hy
        have q0 := (hf i hi).1
        rw [add_at, Nat.mul_one, hfy] at q0
        exact q0
    · intro y hy
      obtain ⟨i, hi, rfl⟩ := List.mem_map.1 hy
      exact (hf i (List.mem_range.1 hi)).2.1
    · rw [List.map_map]
      exact List.map_congr_left fun i hi => (hf i (List.mem_range.1 hi)).2.2
theorem open_nl {H : Type} {enc : TypeId × Value → H} {W : World} {fuel len cap : Nat} {a : Option Addr} {x : DataW H × List MemPlace} {cs : List Value} (h : DataW.trod enc Tryd.prog W 0 (fun _ => true) true fuel 23 cs = some x) (hcs0 : cs = [.slice a len cap]) :
    ∃ l : List Int, l.length = len ∧ len ≤ cap ∧ ILst W (.slice a len cap) l ∧ (∀ y ∈ l, -9223372036854775808 ≤ y ∧ y ≤ 9223372036854775807) ∧ ((x.1 = .nil ∧ len = 0) ∨ ∃ el sp, x.1 = .slice el sp ∧ el = l.map fun y => .lit (.int .i64 y)) := by
  subst hcs0
  rcases Deep.open_slice Tryd.underlying23 h with ⟨hcs, rfl⟩ | ⟨a', len', cap', m, n, D, Pl, hcs, hb, hl, hm, hmm, rfl, hx⟩
  · simp at hcs
    obtain ⟨rfl, rfl, rfl⟩ := hcs
    exact ⟨[], rfl, Nat.le_refl _, ILst.nil _ _, fun y hy => (by cases hy), .inl ⟨rfl, rfl⟩⟩
  · simp at hcs
    obtain ⟨rfl, rfl, rfl⟩ := hcs
    simp only [if_true] at hmm
    subst hmm
    rw [cells2] at hx
    have each : ∀ i, i < len → ∃ y : Int, W.cell? (a'.add (i * 1)) = some (.int .i64 y) ∧ (-9223372036854775808 ≤ y ∧ y ≤ 9223372036854775807) ∧ D i = .lit (.int .i64 y) := fun i hi => by
      obtain ⟨cs', h1, h2⟩ := hx i (by omega)
      obtain ⟨_, hlen, hcell⟩ := World.cells?_some h1
      obtain ⟨v0, rfl⟩ : ∃ v0, cs' = [v0] := by
        match cs', hlen with
        | [v0], _ => exact ⟨v0, rfl⟩
      obtain ⟨z0, e0, E0, hw⟩ := DataW.trod_int Tryd.underlying2 h2
      have d0 := hcell 0 (by omega)
      rw [Deep.add_add] at d0
      injection e0 with e0
      subst e0
      exact ⟨z0, d0, wf_int hw, congrArg Prod.fst E0⟩
    obtain ⟨f, hf⟩ := @Deep.choose_lt Int ⟨0⟩ _ _ each
    refine ⟨(List.range len).map f, by simp, hl, ?_, ?_, .inr ⟨_, _, rfl, ?_⟩⟩
    · by_cases hl0 : len = 0
      · subst hl0
        exact ⟨some a', 0, 0, m, rfl, fun h => absurd h (Nat.lt_irrefl 0), fun i x hx => by cases hx⟩
      · obtain ⟨b, off, spot⟩ := a'
        have hspot : spot = none := by simpa [Addr.add] using World.cell?_spot (hf 0 (by omega)).1
        subst hspot
        have hbW : b < W.heap.size := World.block_lt_of_cell? W _ (by have := (hf 0 (by omega)).1; rwa [add_at] at this)
        refine ⟨some ⟨b, off, none⟩, b, off, m, by simp, fun _ => ⟨hbW, rfl⟩, fun i y hy => ?_⟩
        have hi : i < len := by have := (List.getElem?_eq_some_iff.1 hy).1; simpa using this
        have hfy : f i = y := by simpa [hi] using hy
        have q0 := (hf i hi).1
        rw [add_at, Nat.mul_one, hfy] at q0
        exact q0
    · intro y hy
      obtain ⟨i, hi, rfl⟩ := List.mem_map.1 hy
      exact (hf i (List.mem_range.1 hi)).2.1
    · rw [List.map_map]
      exact List.map_congr_left fun i hi => (hf i (List.mem_range.1 hi)).2.2

set_option maxRecDepth 100000 in
theorem open_cd {H : Type} {enc : TypeId × Value → H} {W : World} {fuel len cap : Nat} {a : Option Addr} {x : DataW H × List MemPlace} {cs : List Value} (h : DataW.trod enc Tryd.prog W 0 (fun _ => true) true fuel 24 cs = some x) (hcs0 : cs = [.slice a len cap]) :
    ∃ l : List Ins, l.length = len ∧ ISt W (.slice a len cap) l ∧ (∀ y ∈ l, InB y) ∧ ((x.1 = .nil ∧ len = 0) ∨ ∃ el sp, x.1 = .slice el sp ∧ el.length = len) := by
  subst hcs0
  rcases Deep.open_slice Tryd.underlying24 h with ⟨hcs, rfl⟩ | ⟨a', len', cap', m, n, D, Pl, hcs, hb, hl, hm, hmm, rfl, hx⟩
  · simp at hcs
    obtain ⟨rfl, rfl, rfl⟩ := hcs
    exact ⟨[], rfl, ⟨none, 0, 0, 0, rfl, fun h => absurd h (Nat.lt_irrefl 0), fun i x hx => by cases hx⟩, fun y hy => (by cases hy), .inl ⟨rfl, rfl⟩⟩
  · simp at hcs
    obtain ⟨rfl, rfl, rfl⟩ := hcs
    simp only [if_true] at hmm
    subst hmm
    rw [cellsI] at hx
    have each : ∀ i, i < len → ∃ y : Ins, W.cell? (a'.add (i * 4)) = some (.int .i64 y.op) ∧ W.cell? (a'.add (i * 4 + 1)) = some (.int .i64 y.a) ∧ W.cell? (a'.add (i * 4 + 2)) = some (.int .i64 y.b) ∧ W.cell? (a'.add (i * 4 + 3)) = some (.int .i64 y.n) ∧ InB y := fun i hi => by
      obtain ⟨cs', h1, h2⟩ := hx i (by omega)
      obtain ⟨_, hlen, hcell⟩ := World.cells?_some h1
      obtain ⟨y0, y1, y2, y3, k, hxy, _, g0, g1, g2, g3⟩ := Go.Joins.trod_struct4 Tryd.underlying38 h2
      obtain ⟨v0, v1, v2, v3, rfl⟩ : ∃ v0 v1 v2 v3, cs' = [v0, v1, v2, v3] := by
        match cs', hlen with
        | [v0, v1, v2, v3], _ => exact ⟨v0, v1, v2, v3, rfl⟩
      have g0' : DataW.trod enc Tryd.prog W 0 (fun _ => true) true k 3 [v0] = some y0 := by simpa [cells3] using g0
      have g1' : DataW.trod enc Tryd.prog W 0 (fun _ => true) true k 3 [v1] = some y1 := by simpa [cells3] using g1
      have g2' : DataW.trod enc Tryd.prog W 0 (fun _ => true) true k 3 [v2] = some y2 := by simpa [cells3] using g2
      have g3' : DataW.trod enc Tryd.prog W 0 (fun _ => true) true k 2 [v3] = some y3 := by simpa [cells2] using g3
      obtain ⟨n0, e0, _, w0⟩ := DataW.trod_int Tryd.underlying3 g0'
      obtain ⟨n1, e1, _, w1⟩ := DataW.trod_int Tryd.underlying3 g1'
      obtain ⟨n2, e2, _, w2⟩ := DataW.trod_int Tryd.underlying3 g2'
      obtain ⟨n3, e3, _, w3⟩ := DataW.trod_int Tryd.underlying2 g3'
      have d0 := hcell 0 (by omega)
      have d1 := hcell 1 (by omega)
      have d2 := hcell 2 (by omega)
      have d3 := hcell 3 (by omega)
      rw [Deep.add_add] at d0 d1 d2 d3
      injection e0 with e0
      injection e1 with e1
      injection e2 with e2
      injection e3 with e3
      subst e0 e1 e2 e3
      exact ⟨⟨n0, n1, n2, n3⟩, d0, d1, d2, d3, (wf_int w1).1, (wf_int w1).2, (wf_int w2).1, (wf_int w2).2, (wf_int w3).1, (wf_int w3).2⟩
    obtain ⟨f, hf⟩ := @Deep.choose_lt Ins ⟨⟨0, 0, 0, 0⟩⟩ _ _ each
    refine ⟨(List.range len).map f, by simp, ?_, fun y hy => ?_, .inr ⟨_, _, rfl, by simp⟩⟩
    · by_cases hl0 : len = 0
      · subst hl0
        exact ⟨some a', 0, 0, m, rfl, fun h => absurd h (Nat.lt_irrefl 0), fun i x hx => by cases hx⟩
      · obtain ⟨b, off, spot⟩ := a'
        have hspot : spot = none := by simpa [Addr.add] using World.cell?_spot (hf 0 (by omega)).1
        subst hspot
        have hbW : b < W.heap.size := World.block_lt_of_cell? W _ (by have := (hf 0 (by omega)).1; rwa [add_at] at this)
        refine ⟨some ⟨b, off, none⟩, b, off, m, by simp, fun _ => ⟨hbW, rfl⟩, fun i y hy => ?_⟩
        have hi : i < len := by have := (List.getElem?_eq_some_iff.1 hy).1; simpa using this
        have hfy : f i = y := by simpa [hi] using hy
        obtain ⟨q0, q1, q2, q3, _⟩ := hf i hi
        rw [add_at, hfy] at q0 q1 q2 q3
        exact ⟨q0, q1, q2, q3⟩
    · obtain ⟨i, hi, rfl⟩ := List.mem_map.1 hy
      exact (hf i (List.mem_range.1 hi)).2.2.2.2
theorem slice_shape {H : Type} {enc : TypeId × Value → H} {W : World} {fuel : Nat} {v : Value} {x : DataW H × List MemPlace} {t e : TypeId} (hu : Tryd.prog.underlying t = some (.slice e)) (h : DataW.trod enc Tryd.prog W 0 (fun _ => true) true fuel t [v] = some x) : ∃ a l c, v = .slice a l c := by
  rcases Deep.open_slice hu h with ⟨q, _⟩ | ⟨a', len', cap', m, n, D, Pl, q, _⟩
  · simp at q; exact ⟨_, _, _, q⟩
  · simp at q; exact ⟨_, _, _, q⟩
theorem cellsX : Tryd.prog.cellsOf 26 = 6 := by kernel_rfl
theorem cellsSI : Tryd.prog.cellsOf 22 = 1 := by kernel_rfl
theorem cellsSN : Tryd.prog.cellsOf 23 = 1 := by kernel_rfl
theorem cellsSC : Tryd.prog.cellsOf 24 = 1 := by kernel_rfl
theorem len_sized {H : Type} {ts : List TypeId} {ds : List (DataW H)} {j len : Nat} {t e : TypeId} {d : DataW H} (h : (DataW.weightsEach Tryd.prog ts ds).all (· ≤ reachBytes) = true) (ht : ts[j]? = some t) (hd : ds[j]? = some d) (hu : Tryd.prog.underlying t = some (.slice e)) (hw : (d = .nil ∧ len = 0) ∨ ∃ el sp, d = .slice el sp ∧ el.length = len) : len * Tryd.prog.bytesOf e ≤ 140737488351232 := by
  have hr : reachBytes = 140737488351232 := by decide
  rcases hw with ⟨_, rfl⟩ | ⟨el, sp, rfl, rfl⟩
  · simp
  · have h1 := sized_slice h ht hd hu
    rw [hr, Nat.add_mul] at h1
    omega
set_option maxRecDepth 100000 in
theorem open_img {H : Type} {enc : TypeId × Value → H} {W : World} {r : Reach} {b0 : Nat} {v : Value} {d : DataW H} {ps : List MemPlace} {ts : List TypeId} {ds : List (DataW H)} {j : Nat} (hv : Value.okWide Tryd.prog W r b0 26 v) (h : DataW.Trod enc Tryd.prog W 0 (fun _ => true) true 26 v d ps) (hsz : (DataW.weightsEach Tryd.prog ts ds).all (· ≤ reachBytes) = true) (ht : ts[j]? = some 26) (hd : ds[j]? = some d) :
    ∃ nm tv fv iv ov cv x, v = .agg #[nm, tv, fv, iv, ov, cv] ∧ Im W nm tv fv iv ov cv x ∧ (∀ a n c, tv = .slice a n c → n ≤ c) ∧ ImL x ∧ x.name.length ≤ 140737488351232 ∧ (∀ y ∈ x.cd, InB y) := by
  obtain ⟨cs, rfl, hcz⟩ := okWide_struct Tryd.underlying26 hv
  obtain ⟨fuel, hf⟩ := h
  obtain ⟨xs, n, _, hx, hl, hlen, hfl⟩ := DataW.trod_struct Tryd.underlying26 hf
  obtain ⟨c0, c1, c2, c3, c4, c5, rfl⟩ : ∃ c0 c1 c2 c3 c4 c5, cs = #[c0, c1, c2, c3, c4, c5] := by
    have h6 := hcz.trans cellsX
    obtain ⟨l⟩ := cs
    match l, h6 with
    | [c0, c1, c2, c3, c4, c5], _ => exact ⟨c0, c1, c2, c3, c4, c5, rfl⟩
  obtain ⟨y0, y1, y2, y3, y4, y5, rfl⟩ : ∃ y0 y1 y2 y3 y4 y5, xs = [y0, y1, y2, y3, y4, y5] := by
    match xs, hlen with
    | [y0, y1, y2, y3, y4, y5], _ => exact ⟨y0, y1, y2, y3, y4, y5, rfl⟩
  have g0 : DataW.trod enc Tryd.prog W 0 (fun _ => true) true n 9 [c0] = some y0 := by simpa [Value.cells, cells9] using hfl 0 _ rfl
  have g1 : DataW.trod enc Tryd.prog W 0 (fun _ => true) true n 22 [c1] = some y1 := by simpa [Value.cells, cellsSI] using hfl 1 _ rfl
  have g2 : DataW.trod enc Tryd.prog W 0 (fun _ => true) true n 23 [c2] = some y2 := by simpa [Value.cells, cellsSN] using hfl 2 _ rfl
  have g3 : DataW.trod enc Tryd.prog W 0 (fun _ => true) true n 22 [c3] = some y3 := by simpa [Value.cells, cellsSI] using hfl 3 _ rfl
  have g4 : DataW.trod enc Tryd.prog W 0 (fun _ => true) true n 22 [c4] = some y4 := by simpa [Value.cells, cellsSI] using hfl 4 _ rfl
  have g5 : DataW.trod enc Tryd.prog W 0 (fun _ => true) true n 24 [c5] = some y5 := by simpa [Value.cells, cellsSC] using hfl 5 _ rfl
  obtain ⟨s, e0, rfl, _⟩ := DataW.trod_string Tryd.underlying9 g0
  obtain rfl : c0 = .string s := by simpa using e0
  obtain ⟨a1, n1, k1, rfl⟩ := slice_shape Tryd.underlying22 g1
  obtain ⟨a2, n2, k2, rfl⟩ := slice_shape Tryd.underlying23 g2
  obtain ⟨a3, n3, k3, rfl⟩ := slice_shape Tryd.underlying22 g3
  obtain ⟨a4, n4, k4, rfl⟩ := slice_shape Tryd.underlying22 g4
  obtain ⟨a5, n5, k5, rfl⟩ := slice_shape Tryd.underlying24 g5
  obtain ⟨l1, p1, q1, L1, _, w1⟩ := open_il g1 rfl
  obtain ⟨l2, p2, _, L2, _, w2⟩ := open_nl g2 rfl
  obtain ⟨l3, p3, _, L3, _, w3⟩ := open_il g3 rfl
  obtain ⟨l4, p4, _, L4, _, w4⟩ := open_il g4 rfl
  obtain ⟨l5, p5, L5, I5, w5⟩ := open_cd g5 rfl
  have hd' : d = .agg [.lit (.string s.data.toList), y1.1, y2.1, y3.1, y4.1, y5.1] := congrArg Prod.fst hx
  subst hd'
  have hin : (DataW.weightsEach Tryd.prog [9, 22, 23, 22, 22, 24] [.lit (.string s.data.toList), y1.1, y2.1, y3.1, y4.1, y5.1]).all (· ≤ reachBytes) = true := List.all_eq_true.2 fun k hk => List.all_eq_true.1 hsz k (DataW.weights_mem_each ht hd k (by
    simp only [DataW.weights, Tryd.underlying26]; exact hk))
  have lw : ∀ {l : List Int} {len : Nat} {y : DataW H × List MemPlace}, ((y.1 = .nil ∧ len = 0) ∨ ∃ el sp, y.1 = .slice el sp ∧ el = l.map fun z => .lit (.int .i64 z)) → l.length = len → (y.1 = .nil ∧ len = 0) ∨ ∃ el sp, y.1 = .slice el sp ∧ el.length = len := fun hw hp => by
    rcases hw with hw | ⟨el, sp, e1, e2⟩
    · exact .inl hw
    · exact .inr ⟨el, sp, e1, by rw [e2, List.length_map, hp]⟩
  have z1 := len_sized hin (j := 1) rfl rfl Tryd.underlying22 (lw w1 p1)
  have z2 := len_sized hin (j := 2) rfl rfl Tryd.underlying23 (lw w2 p2)
  have z3 := len_sized hin (j := 3) rfl rfl Tryd.underlying22 (lw w3 p3)
  have z4 := len_sized hin (j := 4) rfl rfl Tryd.underlying22 (lw w4 p4)
  have z5 := len_sized hin (j := 5) rfl rfl Tryd.underlying24 w5
  have z0 := sized_string hin (j := 0) rfl rfl
  have hr : reachBytes = 140737488351232 := by decide
  rw [bytes3] at z1 z3 z4
  rw [bytes2] at z2
  rw [bytesI] at z5
  refine ⟨_, _, _, _, _, _, ⟨s.data.toList, l1, l2, l3, l4, l5⟩, rfl, ⟨by cases s; rfl, L1, L2, L3, L4, L5⟩, fun a n c e => by injection e with _ e1 e2; omega, ⟨?_, ?_, ?_, ?_, ?_⟩, by rw [hr] at z0; exact z0, I5⟩
  · show l1.length ≤ _; omega
  · show l2.length ≤ _; omega
  · show l3.length ≤ _; omega
  · show l4.length ≤ _; omega
  · show l5.length ≤ _; omega
end Go.Proofs.YtlckedionmgjjaaDoor
