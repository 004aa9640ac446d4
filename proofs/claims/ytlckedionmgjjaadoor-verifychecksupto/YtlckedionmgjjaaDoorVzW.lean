/- VerifyChecks: the document's run. -/
import Derived.Test.YtlckedionmgjjaaDoorVyW
import Derived.Test.YtlckedionmgjjaaDoorMg18
import Derived.Test.YtlckedionmgjjaaDoorMg19
import Derived.Test.YtlckedionmgjjaaDoorRfW
import Derived.Deep.CutRange
namespace Go.Proofs.YtlckedionmgjjaaDoor
open Go.RowKit
theorem info22b : (Tryd.prog.info? 22).map (fun i => (i.zero, i.size, i.bytes)) = some (some (.slice none 0 0), 1, 24) := by kernel_rfl
theorem made_one (v : Value) (n : Nat) : madeCells #[v] (n * 1) = (List.replicate n v).toArray := by
  apply Array.ext'
  simp only [madeCells]
  apply List.ext_getElem
  · simp
  · intro i h1 h2
    simp [Nat.mod_one]
theorem mk_k (n : Nat) (h : n ≤ 4096) (W : World) : (Instr.makeSlice 56 (.int .i64 (n : Int)) (.int .i64 (n : Int))).run Tryd.prog W = .ok (.slice (some ⟨W.heap.size, 0, none⟩) n n) (W.alloc (.cells (List.replicate n (Value.slice none 0 0)).toArray 22)) := by
  obtain ⟨i0, hi, hz0, hz1, hz2⟩ := info_parts info22b
  have := run_make W 56 22 i0 _ Tryd.underlying56 hi hz0 .i64 .i64 (n : Int) (n : Int) (by omega) (Int.le_refl _) (by rw [hz2]; omega) (by omega)
  rw [hz1] at this
  simp only [Int.toNat_natCast] at this
  rw [← made_one]; exact this
theorem mk_i (n : Nat) (h : n ≤ 4096) (W : World) : (Instr.makeSlice 22 (.int .i64 (n : Int)) (.int .i64 (n : Int))).run Tryd.prog W = .ok (.slice (some ⟨W.heap.size, 0, none⟩) n n) (W.alloc (.cells (List.replicate n (Value.int .i64 0)).toArray 3)) := by
  obtain ⟨i0, hi, hz0, hz1, hz2⟩ := info_parts info3
  have := run_make W 22 3 i0 _ Tryd.underlying22 hi hz0 .i64 .i64 (n : Int) (n : Int) (by omega) (Int.le_refl _) (by rw [hz2]; omega) (by omega)
  rw [hz1] at this
  simp only [Int.toNat_natCast] at this
  rw [← made_one]; exact this
theorem built58 (a b c d e f : Value) (x y : Option Addr) (n m k l : Nat) : Tryd.prog.built 58 [(0, .agg #[a, b, c, d, e, f]), (1, .slice x n m), (2, .slice y k l)] = some #[a, b, c, d, e, f, .slice x n m, .slice y k l, .int .i64 0] := by
  kernel_rfl
theorem st_blank (n : Nat) : intC (stL n (blankS n)) = List.replicate n (Value.int .i64 0) := by
  refine List.ext_getElem? fun i => ?_
  rw [intC_get, List.getElem?_replicate]
  by_cases hi : i < n
  · rw [stL_get _ hi, if_pos hi]
    have : (blankS n).at i = none := blank_get n i
    unfold stV
    rw [this]; rfl
  · rw [List.getElem?_eq_none (by rw [stL_length]; omega), if_neg hi]; rfl
theorem good_blank (n : Nat) : GoodS n (blankS n) := ⟨by simp [blankS], by simp [blankS], fun k hk => by
    have : (List.replicate n false).getD k false = true := hk
    rw [List.getD_eq_getElem?_getD, List.getElem?_replicate] at this
    split at this <;> simp at this, fun k s hk => by rw [show (blankS n).at k = none from blank_get n k] at hk; cases hk⟩
theorem LM.blank {n g g1 g2 : Nat} {xs : List Value} {w : World} (hg : Ob w g 58 (xs ++ [.slice (some ⟨g1, 0, none⟩) n n, .slice (some ⟨g2, 0, none⟩) n n, .int .i64 0])) (h1 : Ob w g1 22 (List.replicate n (Value.slice none 0 0))) (h2 : Ob w g2 3 (List.replicate n (Value.int .i64 0)))
    (h4 : n ≤ 4096) (h0 : 0 < n) (hx : xs.length = 6) (ne : g ≠ g1 ∧ g ≠ g2 ∧ g1 ≠ g2) : LM n g g1 g2 xs (blankS n) w := by
  refine ⟨hg, ⟨_, by simp, h1, fun k v hv => ?_⟩, by rw [st_blank]; exact h2, good_blank n, h4, h0, hx, ne⟩
  rw [List.getElem?_replicate] at hv
  split at hv
  · obtain rfl := Option.some.inj hv
    rw [show (blankS n).at k = none from blank_get n k]
    exact ILp.nil _ _
  · cases hv
theorem LM.start {n g g1 g2 : Nat} {xs : List Value} {w : World} (h : LM n g g1 g2 xs (blankS n) w) : LM n g g1 g2 xs (startS n) (w.setCell ⟨g2, 0, none⟩ (.int .i64 1)) := by
  have hk : Kp g g1 g2 w (w.setCell ⟨g2, 0, none⟩ (.int .i64 1)) := kp_set (Kp.refl _ _ _ _) (.inr (.inr (.inl rfl)))
  have hb : But g2 w (w.setCell ⟨g2, 0, none⟩ (.int .i64 1)) := (But.refl g2 w).set 0 _
  obtain ⟨vs, h1, h2, h3⟩ := h.sk
  refine ⟨hb.ob h.ob h.ne.2.1, ⟨vs, h1, hb.ob h2 h.ne.2.2, fun k v hv => ?_⟩, ?_, start_good n, h.len, h.n0, h.xs, h.ne⟩
  · have h4 := (h3 k v hv).kp hk
    rw [show (blankS n).at k = none from blank_get n k] at h4
    have : ((startS n).at k).getD [] = [] := by
      show (((List.replicate n (none : Option Stk)).set 0 (some [])).getD k none).getD [] = []
      rw [getD_set]
      split
      · rfl
      · rw [List.getD_eq_getElem?_getD, List.getElem?_replicate]
        split <;> rfl
    rw [this]; exact h4
  · have := h.st.set 0 (.int .i64 1)
    rw [st_blank, show (List.replicate n (Value.int .i64 0)).set 0 (Value.int .i64 1) = intC ((List.replicate n 0).set 0 1) by unfold intC; rw [List.map_set, List.map_replicate], ← st_start h.n0] at this
    exact this
theorem ilst_ob {w : World} {g : Nat} {l : List Int} (h : Ob w g 3 (intC l)) (n c : Nat) (hn : n = l.length) : ILst w (.slice (some ⟨g, 0, none⟩) n c) l := by
  subst hn
  refine ⟨_, g, 0, c, rfl, fun _ => ⟨h.lt, rfl⟩, fun i x hx => ?_⟩
  rw [Nat.zero_add]
  exact h.cell i (by rw [intC_get, hx]; rfl)
theorem LM.mu {n g g1 g2 : Nat} {xs : List Value} {a b : Vs} {w : World} (h : LM n g g1 g2 xs a w) (k : LM n g g1 g2 xs b w) : muS a = muS b := by
  have e0 : intC (stL n a) = intC (stL n b) := by
    have := h.st.symm.trans k.st
    simpa using this
  have e1 : ∀ j, j < n → stV a j = stV b j := fun j hj => by
    have := congrArg (·[j]?) e0
    simp only [intC_get, stL_get _ hj, Option.map_some, Option.some.injEq, Value.int.injEq, true_and] at this
    exact this
  have e2 : ∀ j, j < n → (a.at j).isSome = (b.at j).isSome ∧ a.wt.getD j false = b.wt.getD j false := fun j hj => by
    have e := e1 j hj
    have wa := h.good.wait j
    have wb := k.good.wait j
    unfold stV at e
    cases ha : (a.at j).isSome <;> cases hb : (b.at j).isSome <;> cases hc : a.wt.getD j false <;> cases hd : b.wt.getD j false <;> simp_all
  have r1 : rchC a.rs = rchC b.rs := by
    refine List.ext_getElem? fun i => ?_
    rcases Nat.lt_or_ge i n with hi | hi
    · rw [rchC_get _ i (by rw [h.good.rs]; exact hi), rchC_get _ i (by rw [k.good.rs]; exact hi)]
      have := (e2 i hi).1
      show some (Value.bool (a.at i).isSome) = some (Value.bool (b.at i).isSome)
      rw [this]
    · rw [List.getElem?_eq_none (by simp [rchC, h.good.rs]; exact hi), List.getElem?_eq_none (by simp [rchC, k.good.rs]; exact hi)]
  have r2 : a.wt = b.wt := by
    refine List.ext_getElem (h.good.wt.trans k.good.wt.symm) fun i h1 h2 => ?_
    have := (e2 i (by rw [h.good.wt] at h1; exact h1)).2
    rw [List.getD_eq_getElem?_getD, List.getD_eq_getElem?_getD, List.getElem?_eq_getElem h1, List.getElem?_eq_getElem h2] at this
    exact this
  unfold muS
  rw [blk_rch r1, r2]
theorem mu2_ex (n g g1 g2 : Nat) (xs : List Value) : ∃ f : World → Nat, ∀ m w, LM n g g1 g2 xs m w → f w = muS m := by
  have key : ∀ w, ∃ k, ∀ m, LM n g g1 g2 xs m w → k = muS m := fun w => by
    by_cases h : ∃ m, LM n g g1 g2 xs m w
    · obtain ⟨m, hm⟩ := h
      exact ⟨muS m, fun m' hm' => hm.mu hm'⟩
    · exact ⟨0, fun m hm => absurd ⟨m, hm⟩ h⟩
  exact ⟨fun w => Classical.choose (key w), fun m w hm => Classical.choose_spec (key w) m hm⟩
def RnQ (xs : List Value) (n : Nat) (w : World) (R : Vs ⊕ (Int × Int)) (e : Ending) (w' : World) : Prop :=
  match R with
  | .inl m => ∃ g g1 g2, e = .returned (.tuple #[.pointer (some ⟨g, 0, none⟩), .int .i64 0, .int .i64 0]) ∧ LM n g g1 g2 xs m w' ∧ Below w.heap.size w w'
  | .inr q => e = .returned (.tuple #[.pointer none, .int .i64 q.1, .int .i64 q.2]) ∧ Below w.heap.size w w'
set_option maxRecDepth 100000 in
set_option maxHeartbeats 3200000 in
theorem run_any (nm tv fv iv ov cv : Value) (x : Img) (w : World) (hx : Im w nm tv fv iv ov cv x) (hl : ImL x) (hio : x.ins.length + x.outs.length ≤ 20000000000000) :
    Calls Tryd.prog 18 #[.agg #[nm, tv, fv, iv, ov, cv]] w fun e w' => RnQ [nm, tv, fv, iv, ov, cv] x.cd.length w (walkP x) e w' := by
  have HB : Hid (∀ A, Below w.heap.size w (w.alloc A)) := fun A => (Below.refl _ _).alloc (Nat.le_refl _) _
  have m25 : Hid (∀ W, Below w.heap.size w W → Calls Tryd.prog 25 #[.agg #[nm, tv, fv, iv, ov, cv]] W fun e w' => e = .returned (.tuple #[.int .i64 (chkP x).1, .int .i64 (chkP x).2]) ∧ Below W.heap.size W w') := fun W hb =>
    rcheck_any nm tv fv iv ov cv x W (hx.on hb) hl hio
  obtain ⟨ca, cc, rfl⟩ := hx.cd.shape
  have X0 : Hid (Ob (w.alloc (.cells #[nm, tv, fv, iv, ov, .slice ca x.cd.length cc] 26)) w.heap.size 26 [nm, tv, fv, iv, ov, .slice ca x.cd.length cc]) := Ob.new w 26 _
  by_cases h0 : (chkP x).2 = 0
  · have hW : walkP x = runS x.ty x.cd x.cd.length (startS x.cd.length) := by unfold walkP; rw [if_pos h0]
    have hF := frame_facts (chk_ok h0)
    have m27 : Hid (∀ W g g1 g2 m j s0, Below w.heap.size w W → w.heap.size ≤ g → w.heap.size ≤ g1 → w.heap.size ≤ g2 → LM x.cd.length g g1 g2 [nm, tv, fv, iv, ov, .slice ca x.cd.length cc] m W → j < x.cd.length → m.at j = some s0 →
        Calls Tryd.prog 27 #[.pointer (some ⟨g, 0, none⟩), .int .i64 (j : Int)] W fun e w' => AtQ x.cd.length g g1 g2 [nm, tv, fv, iv, ov, .slice ca x.cd.length cc] W (lookS x.ty x.cd m j) e w') := fun W g g1 g2 m j s0 hb l0 l1 l2 hm hj hs =>
      at_any x.cd.length g g1 g2 j nm tv fv iv ov _ x.ty x.cd m s0 W hm rfl hj hs (fun W' hk => (hx.on (hb.trans (hk.below (B := w.heap.size) ⟨l0, l1, l2⟩ hb.size))).cd) (fun W' hk => (hx.on (hb.trans (hk.below (B := w.heap.size) ⟨l0, l1, l2⟩ hb.size))).ty) (types_ok h0) hF.ty (ins_may h0 j hj)
    have HG : Hid (∀ m m' k, GoodS x.cd.length m → k < x.cd.length → lookS x.ty x.cd m k = .inl m' → GoodS x.cd.length m' ∧ muS m' ≤ muS m) := fun m m' k hm hk hl => look_good rfl hm hk (types_ok h0) (ins_may h0 k hk) hl
    have h1 := hF.c1
    have h4 := hF.c2
    have HMU := hide (start_mu h1)
    rw [h0] at m25
    rw [hW]
    obtain ⟨R, hR⟩ : ∃ R, R = runS x.ty x.cd x.cd.length (startS x.cd.length) := ⟨_, rfl⟩
    have HR := hide hR
    rw [← hR]
    generalize hlk : lookS x.ty x.cd = LK at m27 HG
    generalize hrn : runS x.ty x.cd = RN at HR
    have HRN : Hid (∀ c m, leastS m.wt = none → RN c m = .inl m) := fun c m h => by rw [← hrn]; exact run_none h
    have HRS : Hid (∀ c m j, leastS m.wt = some j → RN (c + 1) m = match LK (offS m j) j with | .inr e => .inr e | .inl m' => RN c m') := fun c m j h => by rw [← hrn, ← hlk]; exact run_some h
    have HLE : Hid (∀ m j q, LK m j = .inr q → q.2 = 150 ∨ q.2 = 151) := fun m j q h => by rw [← hlk] at h; exact look_err h
    obtain ⟨n, hn⟩ : ∃ n, n = x.cd.length := ⟨_, rfl⟩
    rw [← hn] at m25 m27 X0 HG HMU HR h1 h4 ⊢
    obtain ⟨PQ, hPQ⟩ : ∃ PQ, PQ = RnQ [nm, tv, fv, iv, ov, .slice ca n cc] n w R := ⟨_, rfl⟩
    have HPQ := hide hPQ
    rw [← hPQ]
    have M1 := mk_k n h4
    have M2 := mk_i n h4
    have HB5 : Hid (∀ x y, Tryd.prog.built 58 [(0, .agg #[nm, tv, fv, iv, ov, .slice ca n cc]), (1, .slice x n n), (2, .slice y n n)] = some #[nm, tv, fv, iv, ov, .slice ca n cc, .slice x n n, .slice y n n, .int .i64 0]) := fun x y => built58 _ _ _ _ _ _ x y _ _ _ _
    have m26 : Hid (∀ g g1 g2 m W, LM n g g1 g2 [nm, tv, fv, iv, ov, .slice ca n cc] m W → Calls Tryd.prog 26 #[.pointer (some ⟨g, 0, none⟩)] W fun e w' => ∃ r, e = .returned (.int .i64 r) ∧ FirstOne (stL n m) r ∧ ∃ d, w' = W.drewN d) := fun g g1 g2 m W hm =>
      leastR_any g (.slice (some ⟨g2, 0, none⟩) n n) (stL n m) W (hm.ob.cell 7 rfl) (ilst_ob hm.st n n (stL_length n m).symm) (by rw [stL_length]; exact h4)
    obtain ⟨RB, hRB⟩ : ∃ RB, RB = List.replicate n (Value.slice none 0 0) := ⟨_, rfl⟩
    obtain ⟨AB, hAB⟩ : ∃ AB, AB = List.replicate n (Value.int .i64 0) := ⟨_, rfl⟩
    rw [← hRB] at M1
    rw [← hAB] at M2
    have hfin : Hid (∀ (W0 : World) (g1 g2 : Nat) (W : World), w.heap.size ≤ W0.heap.size → Below w.heap.size w W → Ob W g1 22 RB → Ob W g2 3 AB → W0.heap.size ≤ g1 → W0.heap.size ≤ g2 → g1 ≠ g2 → ∃ a b c, (some ⟨W.heap.size, 0, none⟩ : Option Addr) = some ⟨a, 0, none⟩ ∧ w.heap.size ≤ a ∧ w.heap.size ≤ b ∧ w.heap.size ≤ c ∧
        LM n a b c [nm, tv, fv, iv, ov, .slice ca n cc] (blankS n) (W.alloc (.cells #[nm, tv, fv, iv, ov, .slice ca n cc, .slice (some ⟨g1, 0, none⟩) n n, .slice (some ⟨g2, 0, none⟩) n n, .int .i64 0] 58)) ∧ Below w.heap.size w (W.alloc (.cells #[nm, tv, fv, iv, ov, .slice ca n cc, .slice (some ⟨g1, 0, none⟩) n n, .slice (some ⟨g2, 0, none⟩) n n, .int .i64 0] 58))) := fun W0 g1 g2 W hs hb o1 o2 l1 l2 hne => by
      have z1 := o1.lt
      have z2 := o2.lt
      rw [hRB] at o1
      rw [hAB] at o2
      exact ⟨W.heap.size, g1, g2, rfl, hb.size, by omega, by omega, LM.blank (Ob.new W 58 _) (o1.on ((Below.refl _ _).alloc (Nat.le_refl _) _) o1.lt) (o2.on ((Below.refl _ _).alloc (Nat.le_refl _) _) o2.lt) h4 h1 rfl ⟨by omega, by omega, hne⟩, hb.alloc hb.size _⟩
    have HNN : Hid (0 < n ∧ n ≤ 4096) := ⟨h1, h4⟩
    have n0I : (0 : Int) < (n : Int) := by omega
    have HS : Hid (∀ W A, Ob W w.heap.size 26 [nm, tv, fv, iv, ov, .slice ca n cc] → Ob (W.alloc A) w.heap.size 26 [nm, tv, fv, iv, ov, .slice ca n cc]) := fun W A h => h.on ((Below.refl _ _).alloc (Nat.le_refl _) _) h.lt
    clear hx hl hio h0 hW hF hR hn hPQ hRB hAB hlk hrn h1 h4
    generalize (chkP x).1 = c1 at *
    go_enter Tryd.func18, Tryd.ntmps18
    go_wp2_with fail
    refine (m25.out _ (HB.out _)).mono ?_
    rintro e w1 ⟨rfl, b1⟩
    have x1 := X0.out.on b1 (by simp)
    have B1 := hide ((HB.out _).trans (b1.mono (by simp)))
    clear b1 m25
    go_wp2_with fail
    go_cut [7] from 12 to 30 (fun p wx => ∃ g g1 g2, p = .pointer (some ⟨g, 0, none⟩) ∧ Hid (w.heap.size ≤ g ∧ w.heap.size ≤ g1 ∧ w.heap.size ≤ g2 ∧ LM n g g1 g2 [nm, tv, fv, iv, ov, .slice ca n cc] (blankS n) wx ∧ Below w.heap.size w wx))
    case first =>
      obtain ⟨w0, hw0⟩ : ∃ w0, w0 = w1.drew := ⟨_, rfl⟩
      have hSS : Ob w0 w.heap.size 26 [nm, tv, fv, iv, ov, .slice ca n cc] := by rw [hw0]; exact x1
      have HB0 : Hid (Below w.heap.size w w0) := by rw [hw0]; exact B1.out.drew
      have HZ0 : Hid (w.heap.size < w0.heap.size) := hSS.lt
      have HW0 := hide hw0
      clear hw0
      refine wp_region_held_drew (S := fun W => Ob W w.heap.size 26 [nm, tv, fv, iv, ov, .slice ca n cc]) (by kernel_rfl) x1 (fun _ => ?_)
      rw [← HW0.out]
      refine tkH 0 (.agg #[nm, tv, fv, iv, ov, .slice ca n cc]) hSS ?_ (hy := yieldsIf_load_mid (by rfl) 26 (.tmp 1) rfl w.heap.size 0 (by rfl) [nm, tv, fv, iv, ov, .slice ca n cc] _ (fun W hW => Ob.range hW 0 _ (fun j v hv => by rw [Nat.zero_add]; exact hv)) Tryd.underlying26 rfl (by kernel_rfl))
      refine tkH 1 (.pointer (some ⟨w.heap.size, 5, none⟩)) hSS ?_
      refine tkH 2 (.slice ca n cc) hSS ?_ (hy := Or.inl ⟨by rfl, fun W hW => by have := Ob.cell (show Ob W w.heap.size 26 [nm, tv, fv, iv, ov, .slice ca n cc] from hW) 5 (v := .slice ca n cc) rfl; go_simp⟩)
      refine tkH 3 (.int .i64 (n : Int)) hSS ?_
      refine tkH 5 (.pointer (some ⟨w.heap.size, 5, none⟩)) hSS ?_
      refine tkH 6 (.slice ca n cc) hSS ?_ (hy := Or.inl ⟨by rfl, fun W hW => by have := Ob.cell (show Ob W w.heap.size 26 [nm, tv, fv, iv, ov, .slice ca n cc] from hW) 5 (v := .slice ca n cc) rfl; go_simp⟩)
      refine tkH 7 (.int .i64 (n : Int)) hSS ?_
      try simp only [Act.put, List.setIfInBounds_toArray, List.set_cons_zero, List.set_cons_succ]
      refine wpAnyH_ready (rs := [4, 8]) (by kernel_rfl) (by simp) ?_
      refine AllReadyH.cons (o := { dst := some 24, op := _, type := _, pos := _, after := _, guard := none }) rfl (fun K hK => ?_) (AllReadyH.cons (o := { dst := some 28, op := _, type := _, pos := _, after := _, guard := none }) rfl (fun K hK => ?_) AllReadyH.nil)
      · rw [if_pos (by rfl)]
        refine wp_mk 56 (.tmp 23) (.tmp 23) rfl _ _ _ _ (by rfl) (by rfl) (M1 _) ?_
        refine hK.out _ _ (HS.out _ _ hSS) (fun hS1 => ?_)
        clear hK K
        try simp only [Act.put, List.setIfInBounds_toArray, List.set_cons_zero, List.set_cons_succ]
        refine rdH 8 (fun K hK => ?_)
        rw [if_pos (by rfl)]
        refine wp_mk 22 (.tmp 27) (.tmp 27) rfl _ _ _ _ (by rfl) (by rfl) (M2 _) ?_
        refine hK.out _ _ (HS.out _ _ hS1) (fun hS2 => ?_)
        clear hK K
        try simp only [Act.put, List.setIfInBounds_toArray, List.set_cons_zero, List.set_cons_succ]
        refine tkH 9 (.agg #[nm, tv, fv, iv, ov, .slice ca n cc, .slice (some ⟨w0.heap.size, 0, none⟩) n n, .slice (some ⟨(w0.alloc (.cells RB.toArray 22)).heap.size, 0, none⟩) n n, .int .i64 0]) hS2 ?_ (hy := yields_build (by rfl) 58 _ rfl _ _ (by kernel_rfl) (HB5.out _ _))
        try simp only [Act.put, List.setIfInBounds_toArray, List.set_cons_zero, List.set_cons_succ]
        refine rdH 10 (fun K hK => ?_)
        rw [if_pos (by rfl)]
        refine wp_box 58 (.tmp 29) rfl _ rfl ?_
        refine hK.out _ _ (HS.out _ _ hS2) (fun hS3 => ?_)
        clear hK K
        try simp only [Act.put, List.setIfInBounds_toArray, List.set_cons_zero, List.set_cons_succ]
        refine tkH 11 (.pointer (some ⟨((w0.alloc (.cells RB.toArray 22)).alloc (.cells AB.toArray 3)).heap.size, 0, none⟩)) hS3 ?_
        try simp only [Act.put, List.setIfInBounds_toArray, List.set_cons_zero, List.set_cons_succ]
        refine wpAnyH_done (by kernel_rfl) ?_ _
        have hz := HZ0.out
        have HX := hfin.out w0 w0.heap.size (w0.alloc (.cells RB.toArray 22)).heap.size ((w0.alloc (.cells RB.toArray 22)).alloc (.cells AB.toArray 3)) HB0.out.size ((HB0.out.alloc HB0.out.size _).alloc (by simp; omega) _) ((Ob.new w0 22 RB).on (w' := ((w0.alloc (.cells RB.toArray 22)).alloc (.cells AB.toArray 3))) ((Below.refl _ _).alloc (Nat.le_refl _) _) (by simp)) (Ob.new (w0.alloc (.cells RB.toArray 22)) 3 AB) (by first | omega | (simp; done)) (by first | omega | (simp; done)) (by first | omega | (simp; done))
        clear hS1 hS2 hS3 hSS hz
        obtain ⟨g, g1, g2, e, l0, l1, l2, hm, hb⟩ := HX
        rw [e]
        go_wp2_with fail
        go_meet
        case rel => exact ⟨g, g1, g2, rfl, l0, l1, l2, hm, hb⟩
      · rw [if_pos (by rfl)]
        refine wp_mk 22 (.tmp 27) (.tmp 27) rfl _ _ _ _ (by rfl) (by rfl) (M2 _) ?_
        refine hK.out _ _ (HS.out _ _ hSS) (fun hS1 => ?_)
        clear hK K
        try simp only [Act.put, List.setIfInBounds_toArray, List.set_cons_zero, List.set_cons_succ]
        refine rdH 4 (fun K hK => ?_)
        rw [if_pos (by rfl)]
        refine wp_mk 56 (.tmp 23) (.tmp 23) rfl _ _ _ _ (by rfl) (by rfl) (M1 _) ?_
        refine hK.out _ _ (HS.out _ _ hS1) (fun hS2 => ?_)
        clear hK K
        try simp only [Act.put, List.setIfInBounds_toArray, List.set_cons_zero, List.set_cons_succ]
        refine tkH 9 (.agg #[nm, tv, fv, iv, ov, .slice ca n cc, .slice (some ⟨(w0.alloc (.cells AB.toArray 3)).heap.size, 0, none⟩) n n, .slice (some ⟨w0.heap.size, 0, none⟩) n n, .int .i64 0]) hS2 ?_ (hy := yields_build (by rfl) 58 _ rfl _ _ (by kernel_rfl) (HB5.out _ _))
        try simp only [Act.put, List.setIfInBounds_toArray, List.set_cons_zero, List.set_cons_succ]
        refine rdH 10 (fun K hK => ?_)
        rw [if_pos (by rfl)]
        refine wp_box 58 (.tmp 29) rfl _ rfl ?_
        refine hK.out _ _ (HS.out _ _ hS2) (fun hS3 => ?_)
        clear hK K
        try simp only [Act.put, List.setIfInBounds_toArray, List.set_cons_zero, List.set_cons_succ]
        refine tkH 11 (.pointer (some ⟨((w0.alloc (.cells AB.toArray 3)).alloc (.cells RB.toArray 22)).heap.size, 0, none⟩)) hS3 ?_
        try simp only [Act.put, List.setIfInBounds_toArray, List.set_cons_zero, List.set_cons_succ]
        refine wpAnyH_done (by kernel_rfl) ?_ _
        have hz := HZ0.out
        have HX := hfin.out w0 (w0.alloc (.cells AB.toArray 3)).heap.size w0.heap.size ((w0.alloc (.cells AB.toArray 3)).alloc (.cells RB.toArray 22)) HB0.out.size ((HB0.out.alloc HB0.out.size _).alloc (by simp; omega) _) (Ob.new (w0.alloc (.cells AB.toArray 3)) 22 RB) ((Ob.new w0 3 AB).on (w' := ((w0.alloc (.cells AB.toArray 3)).alloc (.cells RB.toArray 22))) ((Below.refl _ _).alloc (Nat.le_refl _) _) (by simp)) (by first | omega | (simp; done)) (by first | omega | (simp; done)) (by first | omega | (simp; done))
        clear hS1 hS2 hS3 hSS hz
        obtain ⟨g, g1, g2, e, l0, l1, l2, hm, hb⟩ := HX
        rw [e]
        go_wp2_with fail
        go_meet
        case rel => exact ⟨g, g1, g2, rfl, l0, l1, l2, hm, hb⟩
    case rest =>
      obtain ⟨g, g1, g2, rfl, hh⟩ := hcut
      obtain ⟨l0, l1, l2, hm, hb⟩ := hh.out
      have c7 : wc.cell? ⟨g, 7, none⟩ = some (.slice (some ⟨g2, 0, none⟩) n n) := hm.ob.cell 7 rfl
      have z0 : wc.cell? ⟨g2, 0, none⟩ = some (.int .i64 0) := hm.st.cell 0 (by rw [st_blank, List.getElem?_replicate, if_pos HNN.out.1])
      have f0 := hm.st.fr 0
      have HKB : Hid (∀ W W', Below w.heap.size w W → Kp g g1 g2 W W' → Below w.heap.size w W') := fun W W' hb hk => hb.trans (hk.below (B := w.heap.size) ⟨l0, l1, l2⟩ hb.size)
      have MS := hide hm.start
      have BS : Hid (Below w.heap.size w (wc.setCell ⟨g2, 0, none⟩ (.int .i64 1))) := HKB.out _ _ hb (kp_set (Kp.refl _ _ _ _) (.inr (.inr (.inl rfl))))
      have q27 : Hid (∀ W m j s0, Below w.heap.size w W → LM n g g1 g2 [nm, tv, fv, iv, ov, .slice ca n cc] m W → j < n → m.at j = some s0 → Calls Tryd.prog 27 #[.pointer (some ⟨g, 0, none⟩), .int .i64 (j : Int)] W fun e w' => AtQ n g g1 g2 [nm, tv, fv, iv, ov, .slice ca n cc] W (LK m j) e w') := fun W m j s0 hb hm hj hs => m27.out W g g1 g2 m j s0 hb l0 l1 l2 hm hj hs
      have q26 : Hid (∀ m W, LM n g g1 g2 [nm, tv, fv, iv, ov, .slice ca n cc] m W → Calls Tryd.prog 26 #[.pointer (some ⟨g, 0, none⟩)] W fun e w' => ∃ r, e = .returned (.int .i64 r) ∧ FirstOne (stL n m) r ∧ ∃ d, w' = W.drewN d) := m26.out g g1 g2
      have HG12 : Hid (g ≠ g2) := hm.ne.2.1
      obtain ⟨muF, hmu⟩ := mu2_ex n g g1 g2 [nm, tv, fv, iv, ov, .slice ca n cc]
      have HMF := hide hmu
      clear hh hm hb l0 l1 l2 m26 m27 hmu x1 hfin HB5 M1 M2 X0 HS
      go_wp2
      clear c7 z0 f0
      go_loopw [8] (fun a wr => ∃ (c : Nat) (m : Vs), muS m ≤ c ∧ Hid (RN c m = R ∧ LM n g g1 g2 [nm, tv, fv, iv, ov, .slice ca n cc] m wr ∧ Below w.heap.size w wr ∧ ((∃ j : Nat, a = .int .i64 (j : Int) ∧ leastS m.wt = some j) ∨ (a = .int .i64 (-1) ∧ leastS m.wt = none)))) (fun _ wr => muF wr)
      case atStart => exact ⟨n, startS n, HMU.out, HR.out.symm, MS.out, BS.out, .inl ⟨0, rfl, least_start HNN.out.1⟩⟩
      case round =>
        obtain ⟨c, m, hc, hh⟩ := hrel
        obtain ⟨hr, hm, hb, hst⟩ := hh.out
        rcases hst with ⟨j, rfl, hl⟩ | ⟨rfl, hl⟩
        · obtain ⟨hg1, -⟩ := least_get _ _ hl
          have hjn : j < n := by have := (List.getElem?_eq_some_iff.1 hg1).1; rw [hm.good.wt] at this; exact this
          obtain ⟨og, omu⟩ := off_good hm.good hg1
          obtain ⟨s0, hs0⟩ : ∃ s0, (offS m j).at j = some s0 := Option.isSome_iff_exists.1 (hm.good.wait j (by rw [List.getD_eq_getElem?_getD, hg1]; rfl))
          obtain ⟨c', rfl⟩ : ∃ c', c = c' + 1 := ⟨c - 1, by omega⟩
          rw [HRS.out _ _ _ hl] at hr
          have HMW : Hid (muF wr = muS m) := HMF.out m wr hm
          have c7 : wr.cell? ⟨g, 7, none⟩ = some (.slice (some ⟨g2, 0, none⟩) n n) := hm.ob.cell 7 rfl
          have zj : wr.cell? ⟨g2, j, none⟩ = some (.int .i64 (stV m j)) := hm.st.cell j (by rw [intC_get, stL_get _ hjn]; rfl)
          have fj := hm.st.fr j
          have j0 : (0 : Int) ≤ (j : Int) := by omega
          have jn : (j : Int) < (n : Int) := by omega
          have MO := hide (hm.off hg1)
          have BO : Hid (Below w.heap.size w (wr.setCell ⟨g2, j, none⟩ (.int .i64 2))) := HKB.out _ _ hb (kp_set (Kp.refl _ _ _ _) (.inr (.inr (.inl rfl))))
          have Q27 := hide (q27.out _ _ j s0 BO.out MO.out hjn hs0)
          cases hlk : LK (offS m j) j with
          | inr q =>
            obtain ⟨q1, q2⟩ := q
            rw [hlk] at hr
            have HE : Hid (R = .inr (q1, q2)) := hr.symm
            have hq2 : (q2 != 0) = true := by rcases HLE.out _ _ _ hlk with e | e <;> (have e : q2 = _ := e; rw [e]; rfl)
            rw [hlk] at Q27
            have Q28 : Hid (Calls Tryd.prog 27 #[.pointer (some ⟨g, 0, none⟩), .int .i64 (j : Int)] (wr.setCell ⟨g2, j, none⟩ (.int .i64 2)) fun e w' => e = .returned (.tuple #[.int .i64 q1, .int .i64 q2]) ∧ Kp g g1 g2 (wr.setCell ⟨g2, j, none⟩ (.int .i64 2)) w') := Q27.out
            clear hh hr hm hb hl hc hg1 og omu hs0 hlk hjn Q27
            go_wp2_with fail
            refine Q28.out.mono ?_
            rintro e w3 ⟨rfl, k3⟩
            have B3 := hide (HKB.out _ _ BO.out k3)
            clear k3
            go_wp2
            go_ret3
            rw [HPQ.out, HE.out]
            exact ⟨rfl, B3.out⟩
          | inl m' =>
            rw [hlk] at hr
            have HE := hide hr
            obtain ⟨gm, um⟩ := HG.out (offS m j) m' j og hjn hlk
            have hc' : muS m' ≤ c' := by omega
            have HC' := hide hc'
            have HU : Hid (muS m' < muS m) := by show _ < _; omega
            rw [hlk] at Q27
            have Q28 : Hid (Calls Tryd.prog 27 #[.pointer (some ⟨g, 0, none⟩), .int .i64 (j : Int)] (wr.setCell ⟨g2, j, none⟩ (.int .i64 2)) fun e w' => e = .returned (.tuple #[.int .i64 0, .int .i64 0]) ∧ LM n g g1 g2 [nm, tv, fv, iv, ov, .slice ca n cc] m' w' ∧ Kp g g1 g2 (wr.setCell ⟨g2, j, none⟩ (.int .i64 2)) w') := Q27.out
            clear hh hr hm hb hl hc hg1 og omu hs0 hlk hjn Q27 um hc'
            go_wp2_with fail
            refine Q28.out.mono ?_
            rintro e w3 ⟨rfl, hm3, k3⟩
            have M3 := hide hm3
            have B3 := hide (HKB.out _ _ BO.out k3)
            have HGM := hide gm
            clear k3 hm3 gm
            go_wp2_with fail
            refine (q26.out m' w3 M3.out).mono ?_
            rintro e w4 ⟨r, rfl, hf, d, rfl⟩
            have M4 := hide (M3.out.on (below_drewN (Below.refl _ _) d))
            have HF := hide (first_least HGM.out hf)
            clear hf
            go_wp2
            go_roundw
            case rel =>
              refine ⟨c', m', HC'.out, HE.out, M4.out, below_drewN B3.out d, ?_⟩
              rcases HF.out with ⟨j', e, h⟩ | ⟨e, h⟩
              · exact .inl ⟨j', by rw [e], h⟩
              · exact .inr ⟨by rw [e], h⟩
            case measure =>
              rw [HMW.out, HMF.out _ _ M4.out]
              exact HU.out
        · have HE : Hid (R = .inl m) := by show _ = _; rw [← hr, HRN.out _ _ hl]
          have HM := hide hm
          have HBB := hide hb
          clear hh hr hm hb hl hc
          go_wp2
          go_ret3
          rw [HPQ.out, HE.out]
          exact ⟨g, g1, g2, rfl, HM.out, HBB.out⟩
  · have hW : walkP x = .inr (chkP x) := by unfold walkP; rw [if_neg h0]
    have hb2 : ((chkP x).2 != 0) = true := by simpa using h0
    rw [hW]
    obtain ⟨n, hn⟩ : ∃ n, n = x.cd.length := ⟨_, rfl⟩
    rw [← hn] at m25 X0 ⊢
    obtain ⟨Z, hZ⟩ : ∃ Z, Z = chkP x := ⟨_, rfl⟩
    rw [← hZ] at m25 hb2 ⊢
    clear hZ h0 hW
    obtain ⟨q1, q2⟩ := Z
    obtain ⟨PQ, hPQ⟩ : ∃ PQ, PQ = RnQ [nm, tv, fv, iv, ov, .slice ca n cc] n w (.inr (q1, q2)) := ⟨_, rfl⟩
    have HPQ := hide hPQ
    rw [← hPQ]
    have hb2 : (q2 != 0) = true := hb2
    clear hx hl hio hn hPQ
    go_enter Tryd.func18, Tryd.ntmps18
    go_wp2_with fail
    refine (m25.out _ (HB.out _)).mono ?_
    rintro e w1 ⟨rfl, b1⟩
    have B1 := hide ((HB.out _).trans (b1.mono (by simp)))
    clear b1 m25
    go_wp2
    go_ret3
    rw [HPQ.out]
    exact ⟨rfl, B1.out⟩
end Go.Proofs.YtlckedionmgjjaaDoor
