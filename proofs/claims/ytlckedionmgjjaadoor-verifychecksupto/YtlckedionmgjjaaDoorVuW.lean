/- VerifyChecks: the document's takes. -/
import Derived.Test.YtlckedionmgjjaaDoorMg19
import Derived.Test.YtlckedionmgjjaaDoorMg6
namespace Go.Proofs.YtlckedionmgjjaaDoor
open Go.RowKit
/-- what an instruction takes (the top last; -1: a whole number) and leaves, as the document lists it -/
def takesI (ty : List Int) (i : Ins) : List Int × List Int :=
  if i.op = 1 then ([], [i.a]) else if i.op = 2 then ([], [tyC ty i.a]) else if i.op = 3 then ([tyC ty i.a], [])
  else if i.op = 4 then ([-1], [tyC ty i.a]) else if i.op = 5 then ([-1, tyC ty i.a], [])
  else if i.op = 6 then ([i.b, i.b], [(Four.resN i.a i.b).1]) else if i.op = 7 then ([i.b], [i.b]) else if i.op = 8 then ([i.a], [i.b])
  else if i.op = 10 then ([1], []) else ([], [])
theorem ILst.al {W : World} {v : Value} {l : List Int} (h : ILst W v l) (A : Obj) : ILst (W.alloc A) v l := h.on ((Below.refl _ _).alloc (Nat.le_refl _) A)
theorem ILst.dr {W : World} {v : Value} {l : List Int} (h : ILst W v l) : ILst W.drew v l := h.on ⟨rfl, rfl, rfl, Nat.le_refl _, fun _ _ => rfl⟩
theorem below_dr {B : Nat} {a w : World} (h : Below B a w) : Below B a w.drew := h.trans ⟨rfl, rfl, rfl, Nat.le_refl _, fun _ _ => rfl⟩
set_option maxRecDepth 100000 in
set_option maxHeartbeats 3200000 in
theorem takesR_any (nm ta fv iv ov cv : Value) (ty : List Int) (i : Ins) (w : World) (hT : ILst w ta ty) (hty : ty.length ≤ 1024) (hi : 2 ≤ i.op ∧ i.op ≤ 5 → 0 ≤ i.a ∧ i.a < ty.length) :
    Calls Tryd.prog 40 #[.agg #[nm, ta, fv, iv, ov, cv], inA i] w fun e w' => ∃ u v, e = .returned (.tuple #[u, v]) ∧ ILst w' u (takesI ty i).1 ∧ ILst w' v (takesI ty i).2 ∧ Below w.heap.size w w' := by
  obtain ⟨op, a, b, n⟩ := i
  have HI := hide hi
  have HT := hide hT
  have B2 : Hid (∀ A B, Below w.heap.size w ((w.alloc A).alloc B)) := fun A B => ((Below.refl _ _).alloc (Nat.le_refl _) _).alloc (by simp) _
  have B3 : Hid (∀ A B C, Below w.heap.size w (((w.alloc A).alloc B).alloc C)) := fun A B C => (B2.out A B).alloc (by simp; omega) _
  have B4 : Hid (∀ A B C D, Below w.heap.size w ((((w.alloc A).alloc B).alloc C).alloc D)) := fun A B C D => (B3.out A B C).alloc (by simp; omega) _
  obtain ⟨aa, ab, aoff, acap, rfl, hA, hX⟩ := hT
  obtain ⟨E, hE⟩ : ∃ E, E = takesI ty ⟨op, a, b, n⟩ := ⟨_, rfl⟩
  rw [← hE]
  have HE := hide hE
  have HC : Hid (2 ≤ op ∧ op ≤ 5 → aa = some ⟨ab, aoff, none⟩ ∧ 0 ≤ a ∧ a < (ty.length : Int) ∧ w.cell? ⟨ab, aoff + a.toNat, none⟩ = some (.int .i64 (tyC ty a))) := fun h => by
    obtain ⟨h0, h1⟩ := HI.out h
    have h0 : 0 ≤ a := h0
    have h1 : a < (ty.length : Int) := h1
    have h2 : a.toNat < ty.length := by omega
    refine ⟨(hA (by omega)).2, h0, h1, hX a.toNat _ ?_⟩
    unfold tyC
    rw [List.getElem?_eq_getElem h2, List.getD_eq_getElem?_getD, List.getElem?_eq_getElem h2]; rfl
  have LTA : Hid (2 ≤ op ∧ op ≤ 5 → ab < w.heap.size) := fun h => by
    obtain ⟨h0, h1⟩ := HI.out h
    exact (hA (by have h0 : 0 ≤ a := h0; have h1 : a < _ := h1; omega)).1
  have tn9 : (ty.length : Int) ≤ 1024 := by omega
  clear hi hA hX hE hty
  generalize ty.length = tn at *
  unfold inA
  have b0 : ∀ c : Int, op ≠ c → (op == c) = false := fun c h => by simpa using h
  go_enter Tryd.func40, Tryd.ntmps40
  by_cases h1 : op = 1
  · subst h1
    have e : E = ([], [a]) := by rw [HE.out]; simp [takesI]
    rw [e]
    clear b0 e HC LTA HI
    go_wp2
    go_region
    all_goals go_wp2
    all_goals go_ret2
    all_goals refine ⟨_, _, rfl, ?_, ?_, ?_⟩
    all_goals first | exact B2.out _ _ | exact B3.out _ _ _ | exact B4.out _ _ _ _ | exact below_dr (B2.out _ _) | exact below_dr (B3.out _ _ _) | exact below_dr (B4.out _ _ _ _) | exact ILst.nil _ _ | exact (ILst.nil _ _).dr | (refine ILst.fresh ([a] : List Int) ?_ rfl rfl; simp; done) | (refine (ILst.fresh ([a] : List Int) ?_ rfl rfl).al _; simp; done) | (refine (ILst.fresh ([a] : List Int) ?_ rfl rfl).dr; simp; done) | (refine ((ILst.fresh ([a] : List Int) ?_ rfl rfl).al _).dr; simp; done)
  · have b1 := b0 _ h1
    by_cases h2 : op = 2
    · subst h2
      have e : E = ([], [tyC ty a]) := by rw [HE.out]; simp [takesI]
      rw [e]
      obtain ⟨rfl, a0, a1, ca⟩ := HC.out (by omega)
      have la := LTA.out (by omega)
      have ca2 : ∀ A B, ((w.alloc A).alloc B).cell? ⟨ab, aoff + a.toNat, none⟩ = some (.int .i64 (tyC ty a)) := fun A B => (World.cell?_alloc_lt _ _ ⟨ab, aoff + a.toNat, none⟩ (by simp; omega)).trans ((World.cell?_alloc_lt _ _ ⟨ab, aoff + a.toNat, none⟩ la).trans ca)
      have ca3 : ∀ A B C, (((w.alloc A).alloc B).alloc C).cell? ⟨ab, aoff + a.toNat, none⟩ = some (.int .i64 (tyC ty a)) := fun A B C => (World.cell?_alloc_lt _ _ ⟨ab, aoff + a.toNat, none⟩ (by simp; omega)).trans (ca2 A B)
      clear la
      clear b0 e HC LTA HI
      go_wp2
      go_region
      all_goals go_wp2
      all_goals go_ret2
      all_goals refine ⟨_, _, rfl, ?_, ?_, ?_⟩
      all_goals first | exact B2.out _ _ | exact B3.out _ _ _ | exact B4.out _ _ _ _ | exact below_dr (B2.out _ _) | exact below_dr (B3.out _ _ _) | exact below_dr (B4.out _ _ _ _) | exact ILst.nil _ _ | exact (ILst.nil _ _).dr | (refine ILst.fresh ([tyC ty a] : List Int) ?_ rfl rfl; simp; done) | (refine (ILst.fresh ([tyC ty a] : List Int) ?_ rfl rfl).al _; simp; done) | (refine (ILst.fresh ([tyC ty a] : List Int) ?_ rfl rfl).dr; simp; done) | (refine ((ILst.fresh ([tyC ty a] : List Int) ?_ rfl rfl).al _).dr; simp; done)
    · have b2 := b0 _ h2
      by_cases h3 : op = 3
      · subst h3
        have e : E = ([tyC ty a], []) := by rw [HE.out]; simp [takesI]
        rw [e]
        obtain ⟨rfl, a0, a1, ca⟩ := HC.out (by omega)
        have la := LTA.out (by omega)
        have ca2 : ∀ A B, ((w.alloc A).alloc B).cell? ⟨ab, aoff + a.toNat, none⟩ = some (.int .i64 (tyC ty a)) := fun A B => (World.cell?_alloc_lt _ _ ⟨ab, aoff + a.toNat, none⟩ (by simp; omega)).trans ((World.cell?_alloc_lt _ _ ⟨ab, aoff + a.toNat, none⟩ la).trans ca)
        have ca3 : ∀ A B C, (((w.alloc A).alloc B).alloc C).cell? ⟨ab, aoff + a.toNat, none⟩ = some (.int .i64 (tyC ty a)) := fun A B C => (World.cell?_alloc_lt _ _ ⟨ab, aoff + a.toNat, none⟩ (by simp; omega)).trans (ca2 A B)
        clear la
        clear b0 e HC LTA HI
        go_wp2
        all_goals go_ret2
        all_goals refine ⟨_, _, rfl, ?_, ?_, ?_⟩
        all_goals first | exact B2.out _ _ | exact B3.out _ _ _ | exact B4.out _ _ _ _ | exact below_dr (B2.out _ _) | exact below_dr (B3.out _ _ _) | exact below_dr (B4.out _ _ _ _) | exact ILst.nil _ _ | exact (ILst.nil _ _).dr | (refine ILst.fresh ([tyC ty a] : List Int) ?_ rfl rfl; simp; done) | (refine (ILst.fresh ([tyC ty a] : List Int) ?_ rfl rfl).al _; simp; done) | (refine (ILst.fresh ([tyC ty a] : List Int) ?_ rfl rfl).dr; simp; done) | (refine ((ILst.fresh ([tyC ty a] : List Int) ?_ rfl rfl).al _).dr; simp; done)
      · have b3 := b0 _ h3
        by_cases h4 : op = 4
        · subst h4
          have e : E = ([-1], [tyC ty a]) := by rw [HE.out]; simp [takesI]
          rw [e]
          obtain ⟨rfl, a0, a1, ca⟩ := HC.out (by omega)
          have la := LTA.out (by omega)
          have ca2 : ∀ A B, ((w.alloc A).alloc B).cell? ⟨ab, aoff + a.toNat, none⟩ = some (.int .i64 (tyC ty a)) := fun A B => (World.cell?_alloc_lt _ _ ⟨ab, aoff + a.toNat, none⟩ (by simp; omega)).trans ((World.cell?_alloc_lt _ _ ⟨ab, aoff + a.toNat, none⟩ la).trans ca)
          have ca3 : ∀ A B C, (((w.alloc A).alloc B).alloc C).cell? ⟨ab, aoff + a.toNat, none⟩ = some (.int .i64 (tyC ty a)) := fun A B C => (World.cell?_alloc_lt _ _ ⟨ab, aoff + a.toNat, none⟩ (by simp; omega)).trans (ca2 A B)
          clear la
          clear b0 e HC LTA HI
          go_wp2
          go_region
          all_goals go_wp2
          all_goals go_ret2
          all_goals refine ⟨_, _, rfl, ?_, ?_, ?_⟩
          all_goals first | exact B2.out _ _ | exact B3.out _ _ _ | exact B4.out _ _ _ _ | exact below_dr (B2.out _ _) | exact below_dr (B3.out _ _ _) | exact below_dr (B4.out _ _ _ _) | exact ILst.nil _ _ | exact (ILst.nil _ _).dr | (refine ILst.fresh ([-1] : List Int) ?_ rfl rfl; simp; done) | (refine (ILst.fresh ([-1] : List Int) ?_ rfl rfl).al _; simp; done) | (refine (ILst.fresh ([-1] : List Int) ?_ rfl rfl).dr; simp; done) | (refine ((ILst.fresh ([-1] : List Int) ?_ rfl rfl).al _).dr; simp; done) | (refine ILst.fresh ([tyC ty a] : List Int) ?_ rfl rfl; simp; done) | (refine (ILst.fresh ([tyC ty a] : List Int) ?_ rfl rfl).al _; simp; done) | (refine (ILst.fresh ([tyC ty a] : List Int) ?_ rfl rfl).dr; simp; done) | (refine ((ILst.fresh ([tyC ty a] : List Int) ?_ rfl rfl).al _).dr; simp; done)
        · have b4 := b0 _ h4
          by_cases h5 : op = 5
          · subst h5
            have e : E = ([-1, tyC ty a], []) := by rw [HE.out]; simp [takesI]
            rw [e]
            obtain ⟨rfl, a0, a1, ca⟩ := HC.out (by omega)
            have la := LTA.out (by omega)
            have ca2 : ∀ A B, ((w.alloc A).alloc B).cell? ⟨ab, aoff + a.toNat, none⟩ = some (.int .i64 (tyC ty a)) := fun A B => (World.cell?_alloc_lt _ _ ⟨ab, aoff + a.toNat, none⟩ (by simp; omega)).trans ((World.cell?_alloc_lt _ _ ⟨ab, aoff + a.toNat, none⟩ la).trans ca)
            have ca3 : ∀ A B C, (((w.alloc A).alloc B).alloc C).cell? ⟨ab, aoff + a.toNat, none⟩ = some (.int .i64 (tyC ty a)) := fun A B C => (World.cell?_alloc_lt _ _ ⟨ab, aoff + a.toNat, none⟩ (by simp; omega)).trans (ca2 A B)
            clear la
            clear b0 e HC LTA HI
            go_wp2
            all_goals go_ret2
            all_goals refine ⟨_, _, rfl, ?_, ?_, ?_⟩
            all_goals first | exact B2.out _ _ | exact B3.out _ _ _ | exact B4.out _ _ _ _ | exact below_dr (B2.out _ _) | exact below_dr (B3.out _ _ _) | exact below_dr (B4.out _ _ _ _) | exact ILst.nil _ _ | exact (ILst.nil _ _).dr | (refine ILst.fresh ([-1, tyC ty a] : List Int) ?_ rfl rfl; simp; done) | (refine (ILst.fresh ([-1, tyC ty a] : List Int) ?_ rfl rfl).al _; simp; done) | (refine (ILst.fresh ([-1, tyC ty a] : List Int) ?_ rfl rfl).dr; simp; done) | (refine ((ILst.fresh ([-1, tyC ty a] : List Int) ?_ rfl rfl).al _).dr; simp; done)
          · have b5 := b0 _ h5
            by_cases h6 : op = 6
            · subst h6
              have e : E = ([b, b], [(Four.resN a b).1]) := by rw [HE.out]; simp [takesI]
              rw [e]
              clear b0 e HC LTA HI
              have m := hide (fun W => Four.resR_any a b W)
              go_wp2_with fail
              refine (m.out _).mono ?_
              rintro e w1 ⟨rfl, rfl⟩
              go_wp2
              all_goals go_ret2
              all_goals refine ⟨_, _, rfl, ?_, ?_, ?_⟩
              all_goals first | exact B2.out _ _ | exact B3.out _ _ _ | exact B4.out _ _ _ _ | exact below_dr (B2.out _ _) | exact below_dr (B3.out _ _ _) | exact below_dr (B4.out _ _ _ _) | exact ILst.nil _ _ | exact (ILst.nil _ _).dr | (refine ILst.fresh ([b, b] : List Int) ?_ rfl rfl; simp; done) | (refine (ILst.fresh ([b, b] : List Int) ?_ rfl rfl).al _; simp; done) | (refine (ILst.fresh ([b, b] : List Int) ?_ rfl rfl).dr; simp; done) | (refine ((ILst.fresh ([b, b] : List Int) ?_ rfl rfl).al _).dr; simp; done) | (refine ILst.fresh ([(Four.resN a b).1] : List Int) ?_ rfl rfl; simp; done) | (refine (ILst.fresh ([(Four.resN a b).1] : List Int) ?_ rfl rfl).al _; simp; done) | (refine (ILst.fresh ([(Four.resN a b).1] : List Int) ?_ rfl rfl).dr; simp; done) | (refine ((ILst.fresh ([(Four.resN a b).1] : List Int) ?_ rfl rfl).al _).dr; simp; done)
            · have b6 := b0 _ h6
              by_cases h7 : op = 7
              · subst h7
                have e : E = ([b], [b]) := by rw [HE.out]; simp [takesI]
                rw [e]
                clear b0 e HC LTA HI
                go_wp2
                go_region
                all_goals go_wp2
                all_goals go_ret2
                all_goals refine ⟨_, _, rfl, ?_, ?_, ?_⟩
                all_goals first | exact B2.out _ _ | exact B3.out _ _ _ | exact B4.out _ _ _ _ | exact below_dr (B2.out _ _) | exact below_dr (B3.out _ _ _) | exact below_dr (B4.out _ _ _ _) | exact ILst.nil _ _ | exact (ILst.nil _ _).dr | (refine ILst.fresh ([b] : List Int) ?_ rfl rfl; simp; done) | (refine (ILst.fresh ([b] : List Int) ?_ rfl rfl).al _; simp; done) | (refine (ILst.fresh ([b] : List Int) ?_ rfl rfl).dr; simp; done) | (refine ((ILst.fresh ([b] : List Int) ?_ rfl rfl).al _).dr; simp; done) | (refine ILst.fresh ([b] : List Int) ?_ rfl rfl; simp; done) | (refine (ILst.fresh ([b] : List Int) ?_ rfl rfl).al _; simp; done) | (refine (ILst.fresh ([b] : List Int) ?_ rfl rfl).dr; simp; done) | (refine ((ILst.fresh ([b] : List Int) ?_ rfl rfl).al _).dr; simp; done)
              · have b7 := b0 _ h7
                by_cases h8 : op = 8
                · subst h8
                  have e : E = ([a], [b]) := by rw [HE.out]; simp [takesI]
                  rw [e]
                  clear b0 e HC LTA HI
                  go_wp2
                  go_region
                  all_goals go_wp2
                  all_goals go_ret2
                  all_goals refine ⟨_, _, rfl, ?_, ?_, ?_⟩
                  all_goals first | exact B2.out _ _ | exact B3.out _ _ _ | exact B4.out _ _ _ _ | exact below_dr (B2.out _ _) | exact below_dr (B3.out _ _ _) | exact below_dr (B4.out _ _ _ _) | exact ILst.nil _ _ | exact (ILst.nil _ _).dr | (refine ILst.fresh ([a] : List Int) ?_ rfl rfl; simp; done) | (refine (ILst.fresh ([a] : List Int) ?_ rfl rfl).al _; simp; done) | (refine (ILst.fresh ([a] : List Int) ?_ rfl rfl).dr; simp; done) | (refine ((ILst.fresh ([a] : List Int) ?_ rfl rfl).al _).dr; simp; done) | (refine ILst.fresh ([b] : List Int) ?_ rfl rfl; simp; done) | (refine (ILst.fresh ([b] : List Int) ?_ rfl rfl).al _; simp; done) | (refine (ILst.fresh ([b] : List Int) ?_ rfl rfl).dr; simp; done) | (refine ((ILst.fresh ([b] : List Int) ?_ rfl rfl).al _).dr; simp; done)
                · have b8 := b0 _ h8
                  by_cases h10 : op = 10
                  · subst h10
                    have e : E = ([1], []) := by rw [HE.out]; simp [takesI]
                    rw [e]
                    clear b0 e HC LTA HI
                    go_wp2
                    all_goals go_ret2
                    all_goals refine ⟨_, _, rfl, ?_, ?_, ?_⟩
                    all_goals first | exact B2.out _ _ | exact B3.out _ _ _ | exact B4.out _ _ _ _ | exact below_dr (B2.out _ _) | exact below_dr (B3.out _ _ _) | exact below_dr (B4.out _ _ _ _) | exact ILst.nil _ _ | exact (ILst.nil _ _).dr | (refine ILst.fresh ([1] : List Int) ?_ rfl rfl; simp; done) | (refine (ILst.fresh ([1] : List Int) ?_ rfl rfl).al _; simp; done) | (refine (ILst.fresh ([1] : List Int) ?_ rfl rfl).dr; simp; done) | (refine ((ILst.fresh ([1] : List Int) ?_ rfl rfl).al _).dr; simp; done)
                  · have b10 := b0 _ h10
                    have e : E = ([], []) := by rw [HE.out]; simp [takesI, h1, h2, h3, h4, h5, h6, h7, h8, h10]
                    rw [e]
                    clear b0 e HC LTA HI
                    go_wp2
                    go_ret2
                    refine ⟨_, _, rfl, ?_, ?_, ?_⟩
                    all_goals first | exact B2.out _ _ | exact B3.out _ _ _ | exact B4.out _ _ _ _ | exact below_dr (B2.out _ _) | exact below_dr (B3.out _ _ _) | exact below_dr (B4.out _ _ _ _) | exact ILst.nil _ _ | exact (ILst.nil _ _).dr | (refine ILst.fresh _ ?_ rfl rfl; simp; done) | (refine (ILst.fresh _ ?_ rfl rfl).al _; simp; done) | (refine (ILst.fresh _ ?_ rfl rfl).dr; simp; done) | (refine ((ILst.fresh _ ?_ rfl rfl).al _).dr; simp; done)
end Go.Proofs.YtlckedionmgjjaaDoor
