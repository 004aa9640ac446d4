/- The document's reader: text, num. | Short forms of the kit's laws on drawn regions, at guarded operations. -/
import Derived.Test.YtmbgcpmapaedcaaGreatDoorRhP
import Derived.Deep.RegionHeldLaw
namespace Go.Proofs.YtmbgcpmapaedcaaGreatDoor
open Go.RowKit
open Wi (It itA ItsAt)
/-- the document's reader in memory, of a list: what it has left -/
def RDr (B : Nat) (w : World) (R : Nat) (l : List It) (s : Rs) : Prop := R < B ∧ B ≤ w.heap.size ∧
  ∃ (a : Option Addr) (b off cap k : Nat), k ≤ l.length ∧ s.q = l.drop k ∧ w.heap[R]? = some (.cells #[.slice a l.length cap, .int .i64 (k : Int), .bool s.bad] 57 (0, 0)) ∧ b ≠ R ∧ (0 < l.length → b < B ∧ a = some ⟨b, off, none⟩) ∧ ItsAt w b off l
theorem RDr.lt {B : Nat} {w : World} {R : Nat} {l : List It} {s : Rs} (h : RDr B w R l s) : R < w.heap.size := Nat.lt_of_lt_of_le h.1 h.2.1
theorem RDr.on {B : Nat} {w w' : World} {R : Nat} {l : List It} {s : Rs} (h : RDr B w R l s) (hb : Below B w w') : RDr B w' R l s := by
  obtain ⟨h1, h2, a, b, off, cap, k, hk, hq, h0, hne, hA, hI⟩ := h
  exact ⟨h1, Nat.le_trans h2 hb.size, a, b, off, cap, k, hk, hq, (hb.block R h1).trans h0, hne, hA, its_below hI fun h => hb.block b (hA h).1⟩
theorem RDr.drew {B : Nat} {w : World} {R : Nat} {l : List It} {s : Rs} (h : RDr B w R l s) : RDr B w.drew R l s := h
theorem rdr_put {B R : Nat} {w w' : World} {l : List It} {s' : Rs} {a : Option Addr} {b off cap k' : Nat} (hR : R < B) (hB : B ≤ w.heap.size) (hk : k' ≤ l.length) (hq : s'.q = l.drop k')
    (hw : w'.heap[R]? = some (.cells #[.slice a l.length cap, .int .i64 (k' : Int), .bool s'.bad] 57 (0, 0))) (hbut : But R w w') (hne : b ≠ R) (hA : 0 < l.length → b < B ∧ a = some ⟨b, off, none⟩) (hI : ItsAt w b off l) : RDr B w' R l s' ∧ But R w w' :=
  ⟨⟨hR, Nat.le_trans hB hbut.size, a, b, off, cap, k', hk, hq, hw, hne, hA, its_below hI fun h => hbut.block b (Nat.lt_of_lt_of_le (hA h).1 hB) (fun e => hne (Option.some.inj e))⟩, hbut⟩
theorem but_set {R : Nat} (w : World) (k : Nat) (v : Value) : But R w (w.setCell ⟨R, k, none⟩ v) := (But.of_below (Below.refl _ _)).set _ _
theorem but_drew {R : Nat} {w w' : World} (h : But R w w') (m : Nat) : But R w (w'.drewN m) := h.trans (But.of_below (below_drewN (Below.refl _ _) m))
theorem its_head {w : World} {b off k : Nat} {l r : List It} {x : It} (h : ItsAt w b off l) (hq : x :: r = l.drop k) : w.cell? ⟨b, off + k * 3, none⟩ = some (.bool x.t) ∧ w.cell? ⟨b, off + k * 3 + 1, none⟩ = some (.int .i64 x.n) ∧ w.cell? ⟨b, off + k * 3 + 2, none⟩ = some (.string x.s) ∧ k < l.length ∧ r = l.drop (k + 1) := by
  have hk : k < l.length := by
    have := congrArg List.length hq
    rw [List.length_cons, List.length_drop] at this
    omega
  have hx : l[k]? = some x := by
    have := congrArg (fun z => z[0]?) hq
    simp only [List.getElem?_cons_zero, List.getElem?_drop, Nat.add_zero] at this
    exact this.symm
  obtain ⟨h1, h2, h3⟩ := h k x hx
  refine ⟨h1, h2, h3, hk, ?_⟩
  rw [← List.drop_drop, ← hq]; rfl
set_option maxRecDepth 100000 in
set_option maxHeartbeats 1600000 in
theorem rtext_any (B R : Nat) (l : List It) (s : Rs) (w : World) (hr : RDr B w R l s) (hl : l.length ≤ 1000) :
    Calls Tryz.prog 32 #[.pointer (some ⟨R, 0, none⟩)] w fun e w' => e = .returned (.string ⟨(tR s).1.toArray⟩) ∧ RDr B w' R l (tR s).2 ∧ But R w w' := by
  have hlt := hr.lt
  obtain ⟨hR, hB, a, b, off, cap, k, hk, hq, h0, hne, hA, hI⟩ := hr
  obtain ⟨q, bad⟩ := s
  simp only at hq h0
  have c0 : w.cell? ⟨R, 0, none⟩ = some (.slice a l.length cap) := (Lib.cell_of_heap (j := 0) h0).trans rfl
  have c1 : w.cell? ⟨R, 1, none⟩ = some (.int .i64 (k : Int)) := (Lib.cell_of_heap (j := 1) h0).trans rfl
  have c2 : w.cell? ⟨R, 2, none⟩ = some (.bool bad) := (Lib.cell_of_heap (j := 2) h0).trans rfl
  have f0 : ∀ j, w.frozen? ⟨R, j, none⟩ = false := fun j => Lib.frozen_of_heap h0 j
  have H0 := hide h0
  have HI := hide hI
  have HA := hide hA
  have HQ := hide hq
  obtain ⟨n, hn⟩ : ∃ n, n = l.length := ⟨_, rfl⟩
  rw [← hn] at hl hk c0
  have HN := hide hn
  have k0 : (0 : Int) ≤ (k : Int) := by omega
  clear h0 hI hA hq hn
  cases bad with
  | true =>
    have HP : Hid (tR ⟨q, true⟩ = ([], ⟨q, true⟩)) := rfl
    rw [HP.out]
    go_enter Tryz.func32, Tryz.ntmps32
    go_wp2_with fail
    go_quiet (fail)
    go_wp2
    go_ret
    refine ⟨rfl, ?_⟩
    exact rdr_put (a := a) (cap := cap) (k' := k) hR hB (by rw [← HN.out]; exact hk) HQ.out ((Lib.heap_setCell_same H0.out _).trans rfl) ((But.of_below (below_drewN (Below.refl _ _) _)).set _ _) hne HA.out HI.out
  | false =>
    cases q with
    | nil =>
      have hkn : k = n := by
        have := congrArg List.length HQ.out
        rw [List.length_nil, List.length_drop, ← HN.out] at this
        omega
      subst hkn
      have HP : Hid (tR ⟨[], false⟩ = ([], ⟨[], true⟩)) := rfl
      rw [HP.out]
      go_enter Tryz.func32, Tryz.ntmps32
      go_wp2_with fail
      go_quiet (fail)
      go_wp2
      go_ret
      refine ⟨rfl, ?_⟩
      exact rdr_put (a := a) (cap := cap) (k' := k) hR hB (by rw [← HN.out]; exact hk) HQ.out ((Lib.heap_setCell_same H0.out _).trans rfl) ((But.of_below (below_drewN (Below.refl _ _) _)).set _ _) hne HA.out HI.out
    | cons x r =>
      obtain ⟨d0, d1, d2, hkn, hrr⟩ := its_head HI.out HQ.out
      rw [← HN.out] at hkn
      obtain ⟨-, rfl⟩ := HA.out (by rw [← HN.out]; omega)
      have j1 : (k : Int) < (n : Int) := by omega
      have HR := hide hrr
      clear hrr
      obtain ⟨xt, xn, xs⟩ := x
      cases xt with
      | false =>
        have HP : Hid (tR ⟨⟨false, xn, xs⟩ :: r, false⟩ = ([], ⟨⟨false, xn, xs⟩ :: r, true⟩)) := rfl
        rw [HP.out]
        go_enter Tryz.func32, Tryz.ntmps32
        go_wp2_with fail
        go_quiet (fail)
        go_wp2
        go_ret
        refine ⟨rfl, ?_⟩
        exact rdr_put (cap := cap) (k' := k) hR hB (by rw [← HN.out]; exact hk) HQ.out ((Lib.heap_setCell_same H0.out _).trans rfl) ((But.of_below (below_drewN (Below.refl _ _) _)).set _ _) hne (fun h => ⟨(HA.out h).1, rfl⟩) HI.out
      | true =>
        have HP : Hid (tR ⟨⟨true, xn, xs⟩ :: r, false⟩ = (xs.data.toList, ⟨r, false⟩)) := rfl
        rw [HP.out]
        have HX : Hid ((⟨xs.data.toList.toArray⟩ : ByteArray) = xs) := (Wi.of_list xs _ rfl).symm
        show Calls Tryz.prog 32 #[.pointer (some ⟨R, 0, none⟩)] w fun e w' => e = .returned (.string ⟨xs.data.toList.toArray⟩) ∧ _
        rw [HX.out]
        go_enter Tryz.func32, Tryz.ntmps32
        go_wp2_with fail
        go_quiet (fail)
        go_wp2_with fail
        go_quiet (fail)
        go_wp2
        go_ret
        refine ⟨rfl, ?_⟩
        exact rdr_put (cap := cap) (k' := k + 1) hR hB (by rw [← HN.out]; omega) HR.out ((Lib.heap_setCell_same H0.out _).trans rfl) (but_drew ((But.of_below (below_drewN (Below.refl _ _) _)).set _ _) _) hne (fun h => ⟨(HA.out h).1, rfl⟩) HI.out
end Go.Proofs.YtmbgcpmapaedcaaGreatDoor
namespace Go.Proofs.YtmbgcpmapaedcaaGreatDoor
theorem tkG {P : Program} {ops : Array Oper} {Q : Exit → Act → World → Prop} {md : Region.Mode} {S : World → Prop} (i : Nat) {d : Option Tmp} {o : Op} {t : TypeId} {p : String} {f : Array Edge} {g : Option (Nat × Bool)} {fuel : Nat} {listed : Array Bool} {a : Act} {w : World} (v : Value) (hS : S w)
    (h : wpAnyH P md ops Q S fuel (listed.setIfInBounds i true) (a.put d v) w) (hi : ops[i]? = some ⟨d, o, t, p, f, g⟩ := by rfl) (hs : Region.noSelect ops = true := by kernel_rfl) (hf : Region.free md ops listed i = true := by kernel_rfl)
    (hr : (Region.ready md ops listed).contains i = true := by kernel_rfl) (hQ : ∀ c a w, Q (.panic c) (a.put d v) w → Q (.panic c) a w := by exact fun _ _ _ h => h) (hy : YieldsIf P ops S ⟨d, o, t, p, f, g⟩ v a := by exact Or.inl ⟨by rfl, fun W hW => by ((try dsimp only at hW); go_simp)⟩) :
    wpAnyH P md ops Q S (fuel + 1) listed a w := wpAnyH_take hi hs hf hr hQ hy hS h
theorem tkU {P : Program} {ops : Array Oper} {Q : Exit → Act → World → Prop} {md : Region.Mode} {S : World → Prop} (i : Nat) {d : Option Tmp} {o : Op} {t : TypeId} {p : String} {f : Array Edge} {g : Option (Nat × Bool)} {fuel : Nat} {listed : Array Bool} {a : Act} {w : World} (hS : S w)
    (h : wpAnyH P md ops Q S fuel (listed.setIfInBounds i true) (a.put d undef) w) (hi : ops[i]? = some ⟨d, o, t, p, f, g⟩ := by rfl) (hs : Region.noSelect ops = true := by kernel_rfl) (hf : Region.free md ops listed i = true := by kernel_rfl)
    (hr : (Region.ready md ops listed).contains i = true := by kernel_rfl) (hQ : ∀ c a w, Q (.panic c) (a.put d undef) w → Q (.panic c) a w := by exact fun _ _ _ h => h) (hy : Region.wanted (⟨d, o, t, p, f, g⟩ : Oper) (yielded ops a.tmps) = false := by rfl) :
    wpAnyH P md ops Q S (fuel + 1) listed a w := wpAnyH_take hi hs hf hr hQ (Or.inr ⟨hy, rfl⟩) hS h
end Go.Proofs.YtmbgcpmapaedcaaGreatDoor
