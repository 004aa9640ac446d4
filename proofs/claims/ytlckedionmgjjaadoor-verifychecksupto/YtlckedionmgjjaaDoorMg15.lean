/- verify: reach. | verify: goesOn. | A drawn region whose last operation, L, waits for all others: S must hold behind each operation but L. So a cell that is read and, last of all, written may be among what S says. -/
import Derived.Test.YtlckedionmgjjaaDoorMg14
import Derived.Great.Ranges
import Derived.Deep.RegionHeld3
namespace Go.Proofs.YtlckedionmgjjaaDoor
open Go.RowKit
theorem at_box {P : Program} {ops : Array Oper} {rest : List Oper} {a : Act} {w : World} {Q : Exit → Act → World → Prop} {pos : String} {after : Array Edge} {dst : Option Tmp} {ty ty' : TypeId} {x : Operand} {g : Option (Nat × Bool)}
    (h : wpList P ops Q ({ dst := dst, op := .box ty x, type := ty', pos := pos, after := after, guard := g } :: rest) a w) : wpList P ops Q ({ dst := dst, op := .box ty x, type := ty', pos := pos, after := after, guard := g } :: rest) a w := h
theorem size76 : (Tryd.prog.info? 76).map (·.size) = some 65 := by kernel_rfl
theorem size74 : (Tryd.prog.info? 74).map (·.size) = some 64 := by kernel_rfl
theorem typC_length (s : Stk) : (typC s).length = 64 := by simp [typC]
set_option maxRecDepth 100000 in
set_option maxHeartbeats 1600000 in
/-- reach, where the place was reached -/
theorem reach_old (n g g1 g2 k : Nat) (xs : List Value) (m : Vs) (s s' : Stk) (w : World) (h : WM n g g1 g2 xs m w) (hk : k < n) (hs : OkS s) (ha : m.at k = some s') :
    Calls Tryd.prog 33 #[.pointer (some ⟨g, 0, none⟩), .int .i64 (k : Int), .agg (encS s).toArray] w fun e w' => e = .returned (.bool (decide (s' = s))) ∧ WM n g g1 g2 xs m w' ∧ Kp g g1 g2 w w' := by
  have hx8 : (xs ++ [Value.slice (some ⟨g1, 0, none⟩) n n, .slice (some ⟨g2, 0, none⟩) n n]).length = 8 := by simp [h.xs]
  have hs' : OkS s' := ⟨(h.good.ok k s' ha).1, (h.good.ok k s' ha).2⟩
  have c6 : w.cell? ⟨g, 6, none⟩ = some (.slice (some ⟨g1, 0, none⟩) n n) := h.ob.cell 6 (by rw [encW_x hx8 _ _ 6 (by omega), List.getElem?_append_right (by rw [h.xs]; omega), h.xs]; rfl)
  have c7 : w.cell? ⟨g, 7, none⟩ = some (.slice (some ⟨g2, 0, none⟩) n n) := h.ob.cell 7 (by rw [encW_x hx8 _ _ 7 (by omega), List.getElem?_append_right (by rw [h.xs]; omega), h.xs]; rfl)
  have cr : w.cell? ⟨g1, k, none⟩ = some (.bool true) := h.rch.cell k (by
    rw [rchC_get _ _ (by rw [h.good.rs]; exact hk)]
    have : m.rs.getD k none = some s' := ha
    rw [this]; rfl)
  have c6 : ∀ A, (w.alloc A).cell? ⟨g, 6, none⟩ = some (.slice (some ⟨g1, 0, none⟩) n n) := fun A => (World.cell?_alloc_lt _ _ ⟨g, 6, none⟩ h.ob.lt).trans c6
  have c7 : ∀ A, (w.alloc A).cell? ⟨g, 7, none⟩ = some (.slice (some ⟨g2, 0, none⟩) n n) := fun A => (World.cell?_alloc_lt _ _ ⟨g, 7, none⟩ h.ob.lt).trans c7
  have cr : ∀ A, (w.alloc A).cell? ⟨g1, k, none⟩ = some (.bool true) := fun A => (World.cell?_alloc_lt _ _ ⟨g1, k, none⟩ h.rch.lt).trans cr
  have HR : Hid (∀ A n', ((w.alloc A).drewN n').rangeAt g2 (k * 65) (typC s')) := fun A n' => by
    have h1 : Ob ((w.alloc A).drewN n') g2 76 (ahdC n m.rs) := h.ahd.on (below_drewN ((Below.refl _ _).alloc (Nat.le_refl _) _) n') h.ahd.lt
    refine h1.range _ _ fun j v hv => ?_
    have hj : j < 64 := by have := (List.getElem?_eq_some_iff.1 hv).1; rwa [typC_length] at this
    rw [ahdC_get n _ k j hk (by omega), show m.rs.getD k none = some s' from ha, ← typC_get _ _ hj]; exact hv
  have HS : Hid (∀ n', ((w.alloc (.cells (encS s).toArray 76)).drewN n').rangeAt w.heap.size 0 (typC s)) := fun n' => by
    have h1 : Ob ((w.alloc (.cells (encS s).toArray 76)).drewN n') w.heap.size 76 (encS s) := Ob.new w 76 (encS s)
    refine h1.range _ _ fun j v hv => ?_
    have hj : j < 64 := by have := (List.getElem?_eq_some_iff.1 hv).1; rwa [typC_length] at this
    rw [Nat.zero_add, ← typC_get _ _ hj]; exact hv
  have E1 := eq74 hs' hs
  have HW := hide (fun n' => (h.on (below_drewN ((Below.refl w.heap.size w).alloc (Nat.le_refl _) (.cells (encS s).toArray 76)) n') : WM n g g1 g2 xs m ((w.alloc (.cells (encS s).toArray 76)).drewN n')))
  have k0 : (0 : Int) ≤ (k : Int) := by omega
  have k1 : (k : Int) < (n : Int) := by omega
  have HA1 := hide (typC_length s')
  have HA2 := hide (typC_length s)
  generalize decide (s' = s) = R at *
  generalize typC s' = A1 at *
  generalize typC s = A2 at *
  generalize (encS s).toArray = S at *
  have hSS : (w.alloc (.cells S 76)).cell? ⟨g, 7, none⟩ = some (.slice (some ⟨g2, 0, none⟩) n n) ∧ (w.alloc (.cells S 76)).rangeAt g2 (k * 65) A1 ∧ (w.alloc (.cells S 76)).rangeAt w.heap.size 0 A2 := ⟨c7 _, HR.out (.cells S 76) 0, HS.out 0⟩
  clear h hx8 hs' ha hs hk HR HS
  go_enter Tryd.func33, Tryd.ntmps33
  go_wp2_with ((with_reducible refine at_box (ty := 76) ?_); go_must (refine Great.wpList_boxTo rfl 76 _ rfl _ rfl _ rfl S rfl ?_))
  refine wp_region_held_drew (S := fun W => W.cell? ⟨g, 7, none⟩ = some (.slice (some ⟨g2, 0, none⟩) n n) ∧ W.rangeAt g2 (k * 65) A1 ∧ W.rangeAt w.heap.size 0 A2) (by kernel_rfl) hSS (fun hSS => ?_)
  refine tkH 0 (.pointer (some ⟨g, 0, none⟩)) hSS ?_
  refine tkH 1 (.pointer (some ⟨g, 0, none⟩)) hSS ?_
  refine tkH 2 (.pointer (some ⟨g, 7, none⟩)) hSS ?_
  refine tkH 3 (.slice (some ⟨g2, 0, none⟩) n n) hSS ?_
  refine tkH 4 (.int .i64 (k : Int)) hSS ?_
  refine tkH 5 (.pointer (some ⟨g2, k * 65, none⟩)) hSS ?_
  refine tkH 6 (.pointer (some ⟨g2, k * 65, none⟩)) hSS ?_
  try simp only [Act.put, List.setIfInBounds_toArray, List.set_cons_zero, List.set_cons_succ]
  refine tkH 7 (.agg A1.toArray) hSS ?_ (hy := yieldsIf_load_mid (by rfl) 74 (.tmp 20) rfl g2 (k * 65) (by rfl) A1 (.array 64 5) (fun W hW => hW.2.1) Tryd.underlying74 rfl (by rw [size74, HA1.out]))
  refine tkH 8 (.pointer (some ⟨w.heap.size, 0, none⟩)) hSS ?_
  try simp only [Act.put, List.setIfInBounds_toArray, List.set_cons_zero, List.set_cons_succ]
  refine tkH 9 (.agg A2.toArray) hSS ?_ (hy := yieldsIf_load_mid (by rfl) 74 (.tmp 22) rfl w.heap.size 0 (by rfl) A2 (.array 64 5) (fun W hW => hW.2.2) Tryd.underlying74 rfl (by rw [size74, HA2.out]))
  try simp only [Act.put, List.setIfInBounds_toArray, List.set_cons_zero, List.set_cons_succ]
  refine tkH 10 (.bool R) hSS ?_ (hy := Or.inl ⟨by rfl, fun W _ => by (show ((binOp .eql 74 (.agg A1.toArray) (.agg A2.toArray)) >>= fun x => pure (Next.value x)).run _ _ = _); rw [Sem.run_bind, E1 W]; rfl⟩)
  refine tkH 11 (.bool R) hSS ?_
  try simp only [Act.put, List.setIfInBounds_toArray, List.set_cons_zero, List.set_cons_succ]
  refine wpAnyH_done (by kernel_rfl) ?_ _
  go_wp2
  go_ret
  exact ⟨rfl, HW.out 1, ((Kp.refl g g1 g2 w).alloc _).drewN 1⟩
theorem heap_set_apart {w : World} {b b' o : Nat} {v : Value} {T : TypeId} {cs : List Value} (h : Ob w b' T cs) (hn : b' ≠ b) : Ob (w.setCell ⟨b, o, none⟩ v) b' T cs := by
  unfold Ob
  rw [Below.heap_setCell _ _ _ _ (by show b' ≠ b; exact hn)]
  exact h
theorem kp_set {g g1 g2 b o : Nat} {w w' : World} {v : Value} (h : Kp g g1 g2 w w') (hb : b = g ∨ b = g1 ∨ b = g2 ∨ w.heap.size ≤ b) : Kp g g1 g2 w (w'.setCell ⟨b, o, none⟩ v) :=
  ⟨h.os, h.tape, h.output, by simpa using h.size, fun k hk h1 h2 h3 => by rw [Below.heap_setCell _ _ _ _ (by show k ≠ b; omega)]; exact h.block k hk h1 h2 h3⟩
set_option maxRecDepth 100000 in
set_option maxHeartbeats 1600000 in
/-- reach, where the place was not reached -/
theorem reach_new (n g g1 g2 k : Nat) (xs : List Value) (m : Vs) (s : Stk) (w : World) (h : WM n g g1 g2 xs m w) (hk : k < n) (hs : OkS s) (ha : m.at k = none) :
    Calls Tryd.prog 33 #[.pointer (some ⟨g, 0, none⟩), .int .i64 (k : Int), .agg (encS s).toArray] w fun e w' => e = .returned (.bool true) ∧ WM n g g1 g2 xs ⟨m.rs.set k (some s), m.wt.set k true, m.dp⟩ w' ∧ Kp g g1 g2 w w' := by
  have hx8 : (xs ++ [Value.slice (some ⟨g1, 0, none⟩) n n, .slice (some ⟨g2, 0, none⟩) n n]).length = 8 := by simp [h.xs]
  have c6 : w.cell? ⟨g, 6, none⟩ = some (.slice (some ⟨g1, 0, none⟩) n n) := h.ob.cell 6 (by rw [encW_x hx8 _ _ 6 (by omega), List.getElem?_append_right (by rw [h.xs]; omega), h.xs]; rfl)
  have c7 : w.cell? ⟨g, 7, none⟩ = some (.slice (some ⟨g2, 0, none⟩) n n) := h.ob.cell 7 (by rw [encW_x hx8 _ _ 7 (by omega), List.getElem?_append_right (by rw [h.xs]; omega), h.xs]; rfl)
  have cr : w.cell? ⟨g1, k, none⟩ = some (.bool false) := h.rch.cell k (by
    rw [rchC_get _ _ (by rw [h.good.rs]; exact hk)]
    have : m.rs.getD k none = none := ha
    rw [this]; rfl)
  have f1 := h.rch.fr k
  have c6 : ∀ A, (w.alloc A).cell? ⟨g, 6, none⟩ = some (.slice (some ⟨g1, 0, none⟩) n n) := fun A => (World.cell?_alloc_lt _ _ ⟨g, 6, none⟩ h.ob.lt).trans c6
  have cr : ∀ A, (w.alloc A).cell? ⟨g1, k, none⟩ = some (.bool false) := fun A => (World.cell?_alloc_lt _ _ ⟨g1, k, none⟩ h.rch.lt).trans cr
  have f1 : ∀ A, (w.alloc A).frozen? ⟨g1, k, none⟩ = false := fun A => (World.frozen?_alloc_past _ _ _ h.rch.lt).trans f1
  have z0 := h.ob.lt
  have z1 := h.rch.lt
  have z2 := h.ahd.lt
  obtain ⟨w1, hw1⟩ : ∃ w1, w1 = (w.alloc (.cells (encS s).toArray 76)).setCell ⟨g1, k, none⟩ (.bool true) := ⟨_, rfl⟩
  have HW1 := hide hw1
  have ba : Below w.heap.size w (w.alloc (.cells (encS s).toArray 76)) := (Below.refl _ _).alloc (Nat.le_refl _) _
  have O1 : Hid (Ob w1 g 55 (encW (xs ++ [.slice (some ⟨g1, 0, none⟩) n n, .slice (some ⟨g2, 0, none⟩) n n]) m.wt m.dp)) := by
    show Ob _ _ _ _
    rw [hw1]; exact heap_set_apart (h.ob.on ba h.ob.lt) h.ne.1
  have R1 : Hid (Ob w1 g1 4 (rchC (m.rs.set k (some s)))) := by
    show Ob _ _ _ _
    rw [hw1, ← rchC_set]; exact (h.rch.on ba h.rch.lt).set k _
  have A1 : Hid (Ob w1 g2 76 (ahdC n m.rs)) := by
    show Ob _ _ _ _
    rw [hw1]; exact heap_set_apart (h.ahd.on ba h.ahd.lt) (fun e => h.ne.2.2 e.symm)
  have X1 : Hid (Ob w1 w.heap.size 76 (encS s)) := by
    show Ob _ _ _ _
    rw [hw1]; exact heap_set_apart (Ob.new w 76 (encS s)) (by omega)
  have K1 : Hid (Kp g g1 g2 w w1) := by
    show Kp _ _ _ _ _
    rw [hw1]; exact kp_set (Kp.of_below ba) (by omega)
  have d7 : w1.cell? ⟨g, 7, none⟩ = some (.slice (some ⟨g2, 0, none⟩) n n) := O1.out.cell 7 (by rw [encW_x hx8 _ _ 7 (by omega), List.getElem?_append_right (by rw [h.xs]; omega), h.xs]; rfl)
  obtain ⟨w2, hw2⟩ : ∃ w2, w2 = w1.drew.setCells g2 (k * 65) (encS s) := ⟨_, rfl⟩
  have HW2 := hide hw2
  have bs : But g2 w1 w2 := by rw [hw2]; exact ((But.refl g2 w1).drew).sets _ _
  have O2 := bs.ob O1.out h.ne.2.1
  have R2 := bs.ob R1.out h.ne.2.2
  have A2 : Ob w2 g2 76 (ahdC n (m.rs.set k (some s))) := by
    rw [hw2, ← ahdC_set n m.rs k s hk h.good.rs]
    exact (show Ob w1.drew g2 76 (ahdC n m.rs) from A1.out).sets _ _
  have X2 := hide (bs.ob X1.out (by omega))
  have K2 := hide (K1.out.trans (Kp.of_but bs (by omega)))
  have e7 := hide (O2.cell 7 (v := .slice (some ⟨g2, 0, none⟩) n n) (by rw [encW_x hx8 _ _ 7 (by omega), List.getElem?_append_right (by rw [h.xs]; omega), h.xs]; rfl))
  have T2 : Hid (w1.drew.there g2 (k * 65) (encS s).toArray.size) := (show Ob w1.drew g2 76 (ahdC n m.rs) from A1.out).there _ _ (by rw [ahdC_length]; simp [encS_length]; omega)
  have hG : GoodS n ⟨m.rs.set k (some s), m.wt.set k true, m.dp⟩ := by
    have := (reach_good (m' := ⟨m.rs.set k (some s), m.wt.set k true, m.dp⟩) h.good ⟨hs.len, hs.ty⟩ hk (by unfold reachS; rw [ha])).1
    exact this
  have m56 : Hid (Calls Tryd.prog 56 #[.pointer (some ⟨g, 8, none⟩), .int .i64 (k : Int)] w2 fun e w' => e = .returned (.tuple #[]) ∧ WM n g g1 g2 xs ⟨m.rs.set k (some s), m.wt.set k true, m.dp⟩ w' ∧ Kp g g1 g2 w w') :=
    (add_any g k _ hx8 m.wt m.dp w2 O2 (by rw [h.good.wt]; exact hk) (by rw [h.good.wt]; exact h.len)).mono fun _ _ ⟨q1, q2, q3⟩ =>
      ⟨q1, ⟨q2, q3.ob R2 (fun e => h.ne.1 e.symm), q3.ob A2 (fun e => h.ne.2.1 e.symm), hG, h.len, h.n0, h.xs, h.lo, h.ne⟩, K2.out.trans (Kp.of_but q3 (.inl rfl))⟩
  have k0 : (0 : Int) ≤ (k : Int) := by omega
  have k1 : (k : Int) < (n : Int) := by omega
  have HL := hide (encS_length s)
  have HO1 := hide (encS_one s)
  have hSS : w1.cell? ⟨g, 7, none⟩ = some (.slice (some ⟨g2, 0, none⟩) n n) ∧ Ob w1 w.heap.size 76 (encS s) := ⟨d7, X1.out⟩
  have HSX : Hid (∀ {W : World}, Ob W w.heap.size 76 (encS s) → W.rangeAt w.heap.size 0 (encS s)) := fun {W} h => h.range 0 _ (fun j v hv => by rw [Nat.zero_add]; exact hv)
  generalize WM n g g1 g2 xs ⟨m.rs.set k (some s), m.wt.set k true, m.dp⟩ = PW at *
  generalize encS s = S at *
  clear h hx8 ha hs hk hw1 ba hw2 bs O2 R2 A2 hG d7 c7 z0 z1 z2
  go_enter Tryd.func33, Tryd.ntmps33
  go_wp2_with ((with_reducible refine at_box (ty := 76) ?_); go_must (refine Great.wpList_boxTo rfl 76 _ rfl _ rfl _ rfl S.toArray rfl ?_))
  rw [← HW1.out]
  refine wp_region_held_drew (S := fun W => W.cell? ⟨g, 7, none⟩ = some (.slice (some ⟨g2, 0, none⟩) n n) ∧ Ob W w.heap.size 76 S) (by kernel_rfl) hSS (fun hSS => ?_)
  refine tkH 0 (.pointer (some ⟨g, 0, none⟩)) hSS ?_
  refine tkH 1 (.pointer (some ⟨g, 0, none⟩)) hSS ?_
  refine tkH 2 (.pointer (some ⟨g, 7, none⟩)) hSS ?_
  refine tkH 3 (.slice (some ⟨g2, 0, none⟩) n n) hSS ?_
  refine tkH 4 (.int .i64 (k : Int)) hSS ?_
  try simp only [Act.put, List.setIfInBounds_toArray, List.set_cons_zero, List.set_cons_succ]
  refine tkH 5 (.agg S.toArray) hSS ?_ (hy := yieldsIf_load_mid (by rfl) 76 (.tmp 5) rfl w.heap.size 0 (by rfl) S _ (fun W hW => HSX.out hW.2) Tryd.underlying76 rfl (by rw [size76, HL.out]))
  refine tkH 6 (.pointer (some ⟨g2, k * 65, none⟩)) hSS ?_
  try simp only [Act.put, List.setIfInBounds_toArray, List.set_cons_zero, List.set_cons_succ]
  refine rdH 7 (fun K hK => ?_)
  rw [if_pos (by rfl)]
  refine wp_store_mid 76 (.tmp 37) (.tmp 36) rfl g2 (k * 65) S.toArray (by rfl) (by rfl) T2.out (by rw [size76]; simp [HL.out]) (all_oneCell_toArray HO1.out) ?_
  simp only
  rw [← HW2.out]
  refine hK.out _ _ ⟨e7.out, X2.out⟩ (fun _ => ?_)
  clear hK K
  refine wpAnyH_done (by kernel_rfl) ?_ _
  clear hSS
  go_wp2_with (go_at_call 56; refine m56.out.mono ?_; rintro e w3 ⟨rfl, q2, q3⟩; have Q2 := hide q2; have Q3 := hide q3; clear q2 q3)
  go_ret
  exact ⟨rfl, Q2.out, Q3.out⟩
theorem reach_any (n g g1 g2 k : Nat) (xs : List Value) (m : Vs) (s : Stk) (w : World) (h : WM n g g1 g2 xs m w) (hk : k < n) (hs : OkS s) :
    Calls Tryd.prog 33 #[.pointer (some ⟨g, 0, none⟩), .int .i64 (k : Int), .agg (encS s).toArray] w fun e w' => e = .returned (.bool (reachS m k s).isSome) ∧ (∀ m', reachS m k s = some m' → WM n g g1 g2 xs m' w') ∧ Kp g g1 g2 w w' := by
  cases ha : m.at k with
  | none =>
    have hr : reachS m k s = some ⟨m.rs.set k (some s), m.wt.set k true, m.dp⟩ := by unfold reachS; rw [ha]
    rw [hr]
    exact (reach_new n g g1 g2 k xs m s w h hk hs ha).mono fun _ _ ⟨h1, h2, h3⟩ => ⟨h1, fun m' e => by cases e; exact h2, h3⟩
  | some s' =>
    have hr : reachS m k s = if s' = s then some m else none := by unfold reachS; rw [ha]
    rw [hr]
    refine (reach_old n g g1 g2 k xs m s s' w h hk hs ha).mono fun _ _ ⟨h1, h2, h3⟩ => ⟨?_, fun m' e => ?_, h3⟩
    · rw [h1]; by_cases e : s' = s
      · simp [e]
      · simp [e]
    · by_cases e' : s' = s
      · rw [if_pos e'] at e; cases e; exact h2
      · rw [if_neg e'] at e; cases e
end Go.Proofs.YtlckedionmgjjaaDoor
namespace Go.Proofs.YtlckedionmgjjaaDoor
open Go.RowKit
def natI (l : List Nat) : List Value := l.map fun (j : Nat) => .int .i64 (j : Int)
/-- a slice of one's own that holds these places, or none -/
def PlQ (w : World) (l : List Nat) (v : Value) (w' : World) : Prop := (l = [] ∧ v = .slice none 0 0) ∨ (l ≠ [] ∧ ∃ vb, w.heap.size ≤ vb ∧ v = .slice (some ⟨vb, 0, none⟩) l.length l.length ∧ Ob w' vb 3 (natI l))
theorem may_jump {ty : List Int} {m : Nat} {op a b n : Int} (h : mayI ty m ⟨op, a, b, n⟩ = true) (ho : op = 9 ∨ op = 10) : ∃ k : Nat, a = (k : Int) ∧ k < m := by
  unfold mayI rightB at h
  simp only [Bool.and_eq_true] at h
  have h2 := h.2.2
  have h3 : inB a m = true := by
    rcases ho with rfl | rfl
    · exact h2
    · exact h2
  unfold inB at h3
  simp only [Bool.and_eq_true, decide_eq_true_eq] at h3
  exact ⟨a.toNat, by omega, by omega⟩
set_option maxRecDepth 100000 in
set_option maxHeartbeats 1600000 in
theorem goes_any (k : Nat) (hk4 : k < 4096) (ty : List Int) (m : Nat) (i : Ins) (w : World) (hi : mayI ty m i = true) :
    Calls Tryd.prog 59 #[.int .i64 (k : Int), .agg #[.int .i64 i.op, .int .i64 i.a, .int .i64 i.b, .int .i64 i.n]] w fun e w' => ∃ v, e = .returned v ∧ PlQ w (goesS k i) v w' ∧ Below w.heap.size w w' := by
  obtain ⟨op, a, b, n⟩ := i
  have HB : Hid (∀ A C, Below w.heap.size w ((w.alloc A).alloc C)) := fun A C => ((Below.refl _ _).alloc (Nat.le_refl _) _).alloc (by simp) _
  have HB1 : Hid (∀ A, Below w.heap.size w (w.alloc A)) := fun A => (Below.refl _ _).alloc (Nat.le_refl _) _
  have kw : IntKind.i64.wrap ((k : Int) + 1) = ((k + 1 : Nat) : Int) := by simp [IntKind.wrap, IntKind.bits, IntKind.signed]; omega
  by_cases h12 : op = 12
  · subst h12
    have HG : Hid (goesS k ⟨12, a, b, n⟩ = []) := rfl
    clear hi
    go_enter Tryd.func59, Tryd.ntmps59
    go_wp2
    go_ret
    exact ⟨_, rfl, .inl ⟨HG.out, rfl⟩, HB1.out _⟩
  · by_cases h9 : op = 9
    · subst h9
      obtain ⟨j, rfl, hj⟩ := may_jump hi (.inl rfl)
      have HG : Hid (goesS k ⟨9, (j : Int), b, n⟩ = [j]) := rfl
      clear hi h12
      go_enter Tryd.func59, Tryd.ntmps59
      go_wp2
      go_ret
      refine ⟨_, rfl, .inr ⟨by rw [HG.out]; simp, w.heap.size + 1, by omega, by rw [HG.out]; first | rfl | simp, ?_⟩, HB.out _ _⟩
      rw [HG.out]
      exact Four.two_at w _ _
    · by_cases h10 : op = 10
      · subst h10
        obtain ⟨j, rfl, hj⟩ := may_jump hi (.inr rfl)
        have HG : Hid (goesS k ⟨10, (j : Int), b, n⟩ = [k + 1, j]) := rfl
        clear hi h12 h9
        go_enter Tryd.func59, Tryd.ntmps59
        go_wp2
        go_ret
        refine ⟨_, rfl, .inr ⟨by rw [HG.out]; simp, w.heap.size + 1, by omega, by rw [HG.out]; first | rfl | simp, ?_⟩, HB.out _ _⟩
        rw [HG.out]
        exact Four.two_at w _ _
      · have HG : Hid (goesS k ⟨op, a, b, n⟩ = [k + 1]) := by show _ = _; unfold goesS; rw [if_neg h12, if_neg h9, if_neg h10]
        clear hi
        go_enter Tryd.func59, Tryd.ntmps59
        go_wp2
        go_ret
        refine ⟨_, rfl, .inr ⟨by rw [HG.out]; simp, w.heap.size + 1, by omega, by rw [HG.out]; first | rfl | simp, ?_⟩, HB.out _ _⟩
        rw [HG.out]
        exact Four.two_at w _ _
end Go.Proofs.YtlckedionmgjjaaDoor
namespace Go.Proofs.YtlckedionmgjjaaDoor
section
variable {P : Program} {ops : Array Oper} {Q : Exit → Act → World → Prop} {md : Region.Mode} {S : World → Prop} {L : Nat}
def wpL (P : Program) (md : Region.Mode) (ops : Array Oper) (Q : Exit → Act → World → Prop) (S : World → Prop) (L : Nat) : Nat → Array Bool → Act → World → Prop
  | 0, listed, a, w => Region.ready md ops listed = [] ∧ Q .normal a w
  | fuel + 1, listed, a, w => (Region.ready md ops listed = [] → Q .normal a w) ∧
    ∀ i ∈ Region.ready md ops listed, wpOp P ops Q i (fun a' w' => (i ≠ L → S w') ∧ wpL P md ops Q S L fuel (listed.setIfInBounds i true) a' w') a w
theorem wpAny_of_L : ∀ (fuel : Nat) (listed : Array Bool) (a : Act) (w : World), wpL P md ops Q S L fuel listed a w → wpAny P md ops Q fuel listed a w
  | 0, _, _, _, h => h
  | fuel + 1, _, _, _, h => ⟨h.1, fun i hi => wpOp_mono (fun a' w' h' => wpAny_of_L fuel _ a' w' h'.2) (h.2 i hi)⟩
def waitsB (md : Region.Mode) (ops : Array Oper) (L i : Nat) : Bool := ((ops[L]?).map fun o => o.after.any fun e => Region.binds md e && e.on == i).getD false
theorem not_ready {L i : Nat} {listed : Array Bool} (hw : waitsB md ops L i = true) (hi : listed.getD i true = false) : L ∉ Region.ready md ops listed := fun h => by
  obtain ⟨-, o, ho, hall⟩ := mem_ready.1 h
  unfold waitsB at hw
  rw [ho] at hw
  simp only [Option.map_some, Option.getD_some, Array.any_eq_true'] at hw
  obtain ⟨e, he, hb⟩ := hw
  rw [Bool.and_eq_true] at hb
  have h1 := hall e he hb.1
  have h2 : e.on = i := by simpa using hb.2
  rw [h2] at h1
  rcases Nat.lt_or_ge i listed.size with h' | h'
  · simp [h'] at hi h1; rw [hi] at h1; cases h1
  · simp [Array.getElem?_eq_none h'] at h1
theorem wpL_first {i : Nat} {oi : Oper} {v : Value} (hi : ops[i]? = some oi) (hsel : ∀ (j : Nat) (o : Oper) cs b, ops[j]? = some o → o.op ≠ .select cs b)
    (hQ : ∀ c a w, Q (.panic c) (a.put oi.dst v) w → Q (.panic c) a w) (hL : waitsB md ops L i = true) :
    ∀ (fuel : Nat) (listed : Array Bool) (a : Act) (w : World),
      (∀ j oj, ops[j]? = some oj → j ≠ i → listed.getD j true = false → (∀ e ∈ oj.after, Region.binds md e = true → e.on ≠ i) → oi.apart ops oj = true) →
      i ∈ Region.ready md ops listed → YieldsIf P ops S oi v a → S w →
      wpL P md ops Q S L fuel (listed.setIfInBounds i true) (a.put oi.dst v) w → wpL P md ops Q S L (fuel + 1) listed a w := by
  intro fuel
  induction fuel with
  | zero =>
    intro listed a w _ hr hy hS H
    refine ⟨fun h => (by rw [h] at hr; cases hr), fun j hj => ?_⟩
    by_cases hji : j = i
    · subst hji; exact hy.wpOp hi hS ⟨fun _ => hS, H⟩
    · have := ready_mono hj hji
      rw [H.1] at this
      cases this
  | succ fuel ih =>
    intro listed a w hfree hr hy hS H
    refine ⟨fun h => (by rw [h] at hr; cases hr), fun j hj => ?_⟩
    have hiun := (mem_ready.1 hr).1
    by_cases hji : j = i
    · subst hji; exact hy.wpOp hi hS ⟨fun _ => hS, H⟩
    · have hjL : j ≠ L := fun e => not_ready hL hiun (e ▸ hj)
      have h1 := H.2 j (ready_mono hj hji)
      obtain ⟨hjun, oj, hoj, hall⟩ := mem_ready.1 hj
      have hnot : ∀ e ∈ oj.after, Region.binds md e = true → e.on ≠ i := fun e he hb heq => by
        have h1 := hall e he hb
        rw [heq] at h1
        rcases Nat.lt_or_ge i listed.size with h' | h'
        · simp [h'] at hiun h1; rw [hiun] at h1; cases h1
        · simp [Array.getElem?_eq_none h'] at h1
      have h2 := wpOp_putIf hoj (hfree j oj hoj hji hjun hnot) (fun cs b => hsel i oi cs b hi) (fun cs b => hsel j oj cs b hoj) hQ hy h1
      have hfree' : ∀ k ok, ops[k]? = some ok → k ≠ i → (listed.setIfInBounds j true).getD k true = false →
          (∀ e ∈ ok.after, Region.binds md e = true → e.on ≠ i) → oi.apart ops ok = true := fun k ok hk hki hun hno => by
        refine hfree k ok hk hki ?_ hno
        by_cases hjk : j = k
        · subst hjk; exact hjun
        · rw [getD_set_ne true hjk] at hun; exact hun
      refine wpOp_mono (fun a' w' h3 => ⟨fun h => h3.2.1 h, ih (listed.setIfInBounds j true) a' w' hfree' (ready_mono hr (Ne.symm hji)) h3.1 (h3.2.1 hjL) ?_⟩) h2
      rw [Array.setIfInBounds_comm _ _ hji]
      exact h3.2.2
/-- take operation i first -/
theorem tkL (i : Nat) {d : Option Tmp} {o : Op} {t : TypeId} {p : String} {f : Array Edge} {fuel : Nat} {listed : Array Bool} {a : Act} {w : World} (v : Value) (hS : S w)
    (h : wpL P md ops Q S L fuel (listed.setIfInBounds i true) (a.put d v) w) (hi : ops[i]? = some ⟨d, o, t, p, f, none⟩ := by rfl) (hs : Region.noSelect ops = true := by kernel_rfl) (hf : Region.free md ops listed i = true := by kernel_rfl)
    (hr : (Region.ready md ops listed).contains i = true := by kernel_rfl) (hL : waitsB md ops L i = true := by kernel_rfl) (hQ : ∀ c a w, Q (.panic c) (a.put d v) w → Q (.panic c) a w := by exact fun _ _ _ h => h) (hy : YieldsIf P ops S ⟨d, o, t, p, f, none⟩ v a := by exact Or.inl ⟨by rfl, fun W hW => by ((try dsimp only at hW); go_simp)⟩) :
    wpL P md ops Q S L (fuel + 1) listed a w :=
  wpL_first (oi := ⟨d, o, t, p, f, none⟩) hi (Region.noSelect_spec hs) hQ hL fuel listed a w (Region.free_spec hi hf) (by simpa using hr) hy hS h
/-- operation i is the one that may come up -/
theorem rdL (i : Nat) {d : Option Tmp} {o : Op} {t : TypeId} {p : String} {f : Array Edge} {fuel : Nat} {listed : Array Bool} {a : Act} {w : World}
    (h : ∀ K' : Act → World → Prop, Shut (∀ a w, (i ≠ L → S w) → wpL P md ops Q S L fuel (listed.setIfInBounds i true) a w → K' a w) → Oper.wp P ⟨d, o, t, p, f, none⟩ a w K' Q)
    (hi : ops[i]? = some ⟨d, o, t, p, f, none⟩ := by rfl) (hr : Region.ready md ops listed = [i] := by kernel_rfl) : wpL P md ops Q S L (fuel + 1) listed a w :=
  ⟨fun h0 => (by rw [hr] at h0; cases h0), fun j hj => by
    rw [hr] at hj
    obtain rfl : j = i := by simpa using hj
    refine wpOp_step hi (fun K' hK => ?_)
    rw [if_pos (by rfl)]
    exact h K' (fun a w hS hW => hK a w ⟨hS, hW⟩)⟩
theorem doneL {listed : Array Bool} {a : Act} {w : World} (h : Q .normal a w) (hr : Region.ready md ops listed = [] := by kernel_rfl) : wpL P md ops Q S L 0 listed a w := ⟨hr, h⟩
theorem region_L {id : Nat} {a : Act} {w : World} (hm : P.follows .mixedOrders = true) (h : wpL P .any ops Q S L ops.size (Array.replicate ops.size false) a w.drew) : (Code.region id ops true).wp P Q a w :=
  wp_region_any hm (wpAny_of_L _ _ _ _ h)
end
end Go.Proofs.YtlckedionmgjjaaDoor
