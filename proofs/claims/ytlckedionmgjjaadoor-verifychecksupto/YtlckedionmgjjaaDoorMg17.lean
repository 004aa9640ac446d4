/- verify: goThrough. | verify: goThrough, walked. -/
import Derived.Test.YtlckedionmgjjaaDoorVjW
namespace Go.Proofs.YtlckedionmgjjaaDoor
open Go.RowKit
open Four (at_store at_build)
/-! what a walk's memory tells of it -/
theorem blk_rch {a b : List (Option Stk)} (h : rchC a = rchC b) : blk a = blk b := by
  induction a generalizing b with
  | nil => cases b with
    | nil => rfl
    | cons y b => simp [rchC] at h
  | cons x a ih => cases b with
    | nil => simp [rchC] at h
    | cons y b =>
      simp only [rchC, List.map_cons, List.cons.injEq, Value.bool.injEq] at h
      have := ih (b := b) h.2
      show (if x.isSome then 0 else 1) + blk a = (if y.isSome then 0 else 1) + blk b
      rw [h.1, this]
theorem WM.mu {n g g1 g2 : Nat} {xs xs' : List Value} {a b : Vs} {w : World} (h : WM n g g1 g2 xs a w) (k : WM n g g1 g2 xs' b w) : muS a = muS b := by
  have e1 : rchC a.rs = rchC b.rs := by
    have := h.rch.symm.trans k.rch
    simpa using this
  have hx : (xs ++ [Value.slice (some ⟨g1, 0, none⟩) n n, .slice (some ⟨g2, 0, none⟩) n n]).length = 8 := by simp [h.xs]
  have hx' : (xs' ++ [Value.slice (some ⟨g1, 0, none⟩) n n, .slice (some ⟨g2, 0, none⟩) n n]).length = 8 := by simp [k.xs]
  have e2 : a.wt = b.wt := by
    have hc := h.ob.symm.trans k.ob
    have hc : encW (xs ++ [Value.slice (some ⟨g1, 0, none⟩) n n, .slice (some ⟨g2, 0, none⟩) n n]) a.wt a.dp = encW (xs' ++ [Value.slice (some ⟨g1, 0, none⟩) n n, .slice (some ⟨g2, 0, none⟩) n n]) b.wt b.dp := by simpa using hc
    have hw : ∀ j, j < 64 → wordN a.wt j = wordN b.wt j := fun j hj => by
      have := congrArg (·[8 + j]?) hc
      simp only [encW_word hx _ _ j hj, encW_word hx' _ _ j hj, Option.some.injEq, Value.int.injEq, true_and] at this
      omega
    refine List.ext_getElem (h.good.wt.trans k.good.wt.symm) fun i h1 h2 => ?_
    have hi : i < 4096 := by have := h.len; have := h.good.wt; omega
    have b1 := natOf_bit (wrdB a.wt (i / 64)) (i % 64)
    have b2 := natOf_bit (wrdB b.wt (i / 64)) (i % 64)
    rw [show natOf (wrdB a.wt (i / 64)) = natOf (wrdB b.wt (i / 64)) from hw _ (by omega), b2] at b1
    rw [List.getD_eq_getElem?_getD, List.getD_eq_getElem?_getD, wrdB_get _ _ _ (by omega), wrdB_get _ _ _ (by omega), show 64 * (i / 64) + i % 64 = i by omega] at b1
    simp only [Option.getD_some, List.getD_eq_getElem?_getD, List.getElem?_eq_getElem h1, List.getElem?_eq_getElem h2] at b1
    exact b1.symm
  unfold muS
  rw [blk_rch e1, e2]
theorem mu_ex (n g g1 g2 : Nat) (xs : List Value) : ∃ f : World → Nat, ∀ m w, WM n g g1 g2 xs m w → f w = muS m := by
  have key : ∀ w, ∃ k, ∀ m, WM n g g1 g2 xs m w → k = muS m := fun w => by
    by_cases h : ∃ m, WM n g g1 g2 xs m w
    · obtain ⟨m, hm⟩ := h
      exact ⟨muS m, fun m' hm' => hm.mu hm'⟩
    · exact ⟨0, fun m hm => absurd ⟨m, hm⟩ h⟩
  exact ⟨fun w => Classical.choose (key w), fun m w hm => Classical.choose_spec (key w) m hm⟩
theorem cnt_pos : ∀ (l : List Bool) (k : Nat), l[k]? = some true → 0 < cnt l := fun l k h => by have := cnt_set l k h; omega
theorem look_good {ty : List Int} {cd : List Ins} {n k : Nat} {m m' : Vs} (hn : cd.length = n) (h : GoodS n m) (hk : k < n) (hty : ∀ t ∈ ty, 1 ≤ t ∧ t ≤ 4) (hi : mayI ty n (insAt cd k) = true) (hl : lookS ty cd m k = .inl m') : GoodS n m' ∧ muS m' ≤ muS m := by
  unfold lookS at hl
  cases hp : passS ty (insAt cd k) ((m.at k).getD []) with
  | none => rw [hp] at hl; cases hl
  | some t =>
    rw [hp] at hl
    have hs : OkS ((m.at k).getD []) := by
      cases ha : m.at k with
      | none => exact ⟨by simp, fun t ht => by simp at ht⟩
      | some s => exact ⟨(h.ok k s ha).1, (h.ok k s ha).2⟩
    have ot := pass_ok hp hs hty hi
    rw [hn] at hl
    obtain ⟨g1, u1, _⟩ := follow_good ⟨ot.len, ot.ty⟩ _ _ _ (goes_le hi hk) (show GoodS n ⟨m.rs, m.wt, max m.dp t.length⟩ from ⟨h.rs, h.wt, h.wait, h.ok⟩) hl
    exact ⟨g1, u1⟩
theorem follow_err {n k : Nat} {s : Stk} : ∀ (l : List Nat) (m : Vs) (q : Int × Int), followS n k s l m = .inr q → q.2 = 150 ∨ q.2 = 151
  | [], m, q, h => by cases h
  | j :: r, m, q, h => by
    unfold followS at h
    split at h
    · obtain rfl := Sum.inr.inj h; exact .inl rfl
    · cases hr : reachS m j s with
      | none => rw [hr] at h; obtain rfl := Sum.inr.inj h; exact .inr rfl
      | some m' => rw [hr] at h; exact follow_err r m' q h
theorem look_err {ty : List Int} {cd : List Ins} {k : Nat} {m : Vs} {q : Int × Int} (h : lookS ty cd m k = .inr q) : q.2 = 150 ∨ q.2 = 151 := by
  unfold lookS at h
  cases hp : passS ty (insAt cd k) ((m.at k).getD []) with
  | none => rw [hp] at h; obtain rfl := Sum.inr.inj h; exact .inr rfl
  | some t => rw [hp] at h; exact follow_err _ _ _ h
/-- the walk with a place taken out -/
def offS (m : Vs) (j : Nat) : Vs := ⟨m.rs, m.wt.set j false, m.dp⟩
theorem off_good {n j : Nat} {m : Vs} (h : GoodS n m) (hj : m.wt[j]? = some true) : GoodS n (offS m j) ∧ muS (offS m j) + 1 = muS m := by
  refine ⟨⟨h.rs, by simp [offS, h.wt], fun k hk => ?_, h.ok⟩, ?_⟩
  · have : (m.wt.set j false).getD k false = true := hk
    rw [getD_set] at this
    split at this
    · cases this
    · exact h.wait k this
  · have := cnt_set m.wt j hj
    show blk m.rs + cnt (m.wt.set j false) + 1 = blk m.rs + cnt m.wt
    omega
theorem run_none {ty : List Int} {cd : List Ins} {c : Nat} {m : Vs} (h : leastS m.wt = none) : runS ty cd c m = .inl m := by
  cases c with
  | zero => rfl
  | succ c => unfold runS; rw [h]
theorem run_some {ty : List Int} {cd : List Ins} {c j : Nat} {m : Vs} (h : leastS m.wt = some j) : runS ty cd (c + 1) m = match lookS ty cd (offS m j) j with | .inr e => .inr e | .inl m' => runS ty cd c m' := by
  show (match leastS m.wt with | none => _ | some j => _) = _
  rw [h]; rfl
end Go.Proofs.YtlckedionmgjjaaDoor
namespace Go.Proofs.YtlckedionmgjjaaDoor
open Go.RowKit
open Four (at_store at_build)
theorem start_reach (n : Nat) : reachS (blankS n) 0 [] = some (startS n) := by
  have : (blankS n).at 0 = none := by
    unfold Vs.at blankS
    rw [List.getD_eq_getElem?_getD, List.getElem?_replicate]
    split <;> rfl
  unfold reachS
  rw [this]; rfl
theorem blk_replicate (n : Nat) : blk (List.replicate n none) = n := by
  induction n with
  | zero => rfl
  | succ n ih =>
    rw [List.replicate_succ]
    show 1 + blk (List.replicate n none) = n + 1
    omega
theorem cnt_replicate (n : Nat) : cnt (List.replicate n false) = 0 := by
  induction n with
  | zero => rfl
  | succ n ih =>
    rw [List.replicate_succ]
    show 0 + cnt (List.replicate n false) = 0
    omega
theorem start_mu {n : Nat} (h : 0 < n) : muS (startS n) ≤ n := by
  have h1 := blk_set (List.replicate n none) 0 [] (by simp [h])
  have h2 := cnt_put (List.replicate n false) 0
  rw [blk_replicate] at h1
  rw [cnt_replicate] at h2
  show blk ((List.replicate n none).set 0 (some [])) + cnt ((List.replicate n false).set 0 true) ≤ n
  omega
set_option maxRecDepth 100000 in
set_option maxHeartbeats 3200000 in
theorem through_any (n g g1 g2 : Nat) (nm tv fv iv ov cv : Value) (ty : List Int) (cd : List Ins) (w : World) (h : WM n g g1 g2 [nm, tv, fv, iv, ov, cv] (blankS n) w) (hn : cd.length = n) (hTz : Tz w)
    (hC : ∀ W, Kp g g1 g2 w W → ISt W cv cd) (hT : ∀ W, Kp g g1 g2 w W → ILst W tv ty) (hty : ∀ t ∈ ty, 1 ≤ t ∧ t ≤ 4) (hi : ∀ k, k < n → mayI ty n (insAt cd k) = true) :
    Calls Tryd.prog 24 #[.pointer (some ⟨g, 0, none⟩)] w fun e w' => LookQ n g g1 g2 [nm, tv, fv, iv, ov, cv] w (runS ty cd n (startS n)) e w' := by
  obtain ⟨xs, hxs⟩ : ∃ xs, xs = [nm, tv, fv, iv, ov, cv] := ⟨_, rfl⟩
  have ba : Hid (∀ A, Below w.heap.size w (w.alloc A)) := fun A => (Below.refl _ _).alloc (Nat.le_refl _) _
  have hZ : ∀ {B : Nat} {W W' : World}, Tz W → Below B W W' → 2 < B → Tz W' := fun a b c => a.on b c
  have HTz : Hid (∀ W, Kp g g1 g2 w W → Tz W) := fun W hK => hTz.on (hK.below (B := 3) ⟨h.lo.1, h.lo.2.1, h.lo.2.2⟩ (by have := h.ob.lt; have := h.lo.1; omega)) (by omega)
  have zg := h.ob.lt
  have zg1 := h.rch.lt
  have zg2 := h.ahd.lt
  have nN : w.heap.size ≠ g ∧ w.heap.size ≠ g1 ∧ w.heap.size ≠ g2 := by omega
  have HNe := hide nN
  have n0 := h.n0
  have m33 : Hid (∀ A, Calls Tryd.prog 33 #[.pointer (some ⟨g, 0, none⟩), .int .i64 0, .agg zeroS.toArray] (w.alloc A) fun e w' => e = .returned (.bool true) ∧ WM n g g1 g2 xs (startS n) w' ∧ Kp g g1 g2 (w.alloc A) w') := fun A =>
    (reach_any n g g1 g2 0 xs (blankS n) [] (w.alloc A) (by rw [hxs]; exact h.on (ba.out A)) n0 ⟨by simp, fun t ht => by simp at ht⟩).mono fun _ _ ⟨h1, h2, h3⟩ => ⟨by rw [h1, start_reach]; rfl, h2 _ (start_reach n), h3⟩
  have m34 : Hid (∀ W m, WM n g g1 g2 xs m W → Tz W → Calls Tryd.prog 34 #[.pointer (some ⟨g, 8, none⟩)] W fun e w' => match leastS m.wt with
      | none => e = .returned (.tuple #[.int .i64 0, .bool false]) ∧ WM n g g1 g2 xs m w' ∧ Kp g g1 g2 W w'
      | some k => e = .returned (.tuple #[.int .i64 (k : Int), .bool true]) ∧ WM n g g1 g2 xs (offS m k) w' ∧ Kp g g1 g2 W w') := fun W m hW hz =>
    (least_any g _ (by simp [hW.xs]) m.wt m.dp W hz hW.lo.1 hW.ob (by rw [hW.good.wt]; exact hW.len)).mono fun e w' hq => by
      unfold LeastQ at hq
      cases hl : leastS m.wt with
      | none =>
        rw [hl] at hq
        obtain ⟨q1, q2, q3⟩ := hq
        exact ⟨q1, ⟨q2, q3.ob hW.rch (fun e => hW.ne.1 e.symm), q3.ob hW.ahd (fun e => hW.ne.2.1 e.symm), hW.good, hW.len, hW.n0, hW.xs, hW.lo, hW.ne⟩, Kp.of_but q3 (.inl rfl)⟩
      | some k =>
        rw [hl] at hq
        obtain ⟨q1, q2, q3⟩ := hq
        exact ⟨q1, ⟨q2, q3.ob hW.rch (fun e => hW.ne.1 e.symm), q3.ob hW.ahd (fun e => hW.ne.2.1 e.symm), (off_good hW.good (least_get _ _ hl).1).1, hW.len, hW.n0, hW.xs, hW.lo, hW.ne⟩, Kp.of_but q3 (.inl rfl)⟩
  have m35 : Hid (∀ W m k, WM n g g1 g2 xs m W → Kp g g1 g2 w W → k < n → (m.at k).isSome = true → Calls Tryd.prog 35 #[.pointer (some ⟨g, 0, none⟩), .int .i64 (k : Int)] W fun e w' => LookQ n g g1 g2 xs W (lookS ty cd m k) e w') := fun W m k hW hK hk ha => by
    obtain ⟨s0, hs0⟩ := Option.isSome_iff_exists.1 ha
    rw [hxs] at hW ⊢
    exact look_any n g g1 g2 k nm tv fv iv ov cv ty cd m s0 W hW hn hk hs0 (fun W' h' => hC W' (hK.trans h')) (fun W' h' => hT W' (hK.trans h')) hty (hi k hk)
  have HG : Hid (∀ m m' k, GoodS n m → k < n → lookS ty cd m k = .inl m' → GoodS n m' ∧ muS m' ≤ muS m) := fun m m' k hm hk hl => look_good hn hm hk hty (hi k hk) hl
  have HMU := hide (start_mu n0)
  obtain ⟨muF, hmu⟩ := mu_ex n g g1 g2 xs
  have HMF := hide hmu
  clear hmu
  obtain ⟨R, hR⟩ : ∃ R, R = runS ty cd n (startS n) := ⟨_, rfl⟩
  have HR := hide hR
  rw [← hR]
  obtain ⟨PQ, hPQ⟩ : ∃ PQ, PQ = LookQ n g g1 g2 [nm, tv, fv, iv, ov, cv] w R := ⟨_, rfl⟩
  have HPQ : Hid (PQ = LookQ n g g1 g2 xs w R) := by rw [hxs]; exact hPQ
  rw [← hPQ]
  clear h hn hTz hC hT hty hi hxs hZ zg zg1 zg2 nN n0 hR hPQ
  go_enter Tryd.func24, Tryd.ntmps24
  go_wp2_with (first | ((with_reducible refine at_build (dst := some 7) ?_); go_must (refine wpList_buildTo rfl 76 _ rfl (some 7) rfl zeroS.toArray (by kernel_rfl) ?_)) | (go_at_call 33; refine (m33.out _).mono ?_; rintro e w1 ⟨rfl, hm1, k1⟩; have M1 := hide hm1; have F1 : Hid (Ob w1 w.heap.size 45 [.int .i64 0, .int .i64 0]) := k1.ob (Ob.new w 45 [.int .i64 0, .int .i64 0]) HNe.out; have K1 := hide ((Kp.of_below (ba.out _)).trans k1); clear k1 hm1))
  go_loopw [3, 4, 5, 9] (fun _ _ _ _ wr => ∃ (c : Nat) (m : Vs), muS m ≤ c ∧ Hid (runS ty cd c m = R ∧ WM n g g1 g2 xs m wr ∧ Ob wr w.heap.size 45 [.int .i64 0, .int .i64 0] ∧ Kp g g1 g2 w wr)) (fun _ _ _ _ wr => muF wr)
  case atStart => exact ⟨n, startS n, HMU.out, HR.out.symm, M1.out, F1.out, K1.out⟩
  case round =>
    obtain ⟨c, m, hc, hh⟩ := hrel
    obtain ⟨hr, hm, hF, hK⟩ := hh.out
    have q34 := m34.out wr m hm (HTz.out _ hK)
    cases hl : leastS m.wt with
    | none =>
      rw [hl] at q34
      have HE : Hid (R = .inl m) := by show _ = _; rw [← hr, run_none hl]
      have Q34 := hide q34
      have HF := hide hF
      have HK := hide hK
      clear q34 hh hr hm hF hK hl hc
      go_wp2_with (go_at_call 34; refine Q34.out.mono ?_; rintro e w2 ⟨rfl, hm2, k2⟩; have M2 := hide hm2; have F2 := hide (k2.ob HF.out HNe.out); have K2 := hide (HK.out.trans k2); clear k2 hm2; have u0 : w2.cell? ⟨w.heap.size, 0, none⟩ = some (.int .i64 0) := F2.out.cell 0 rfl; have u1 : w2.cell? ⟨w.heap.size, 1, none⟩ = some (.int .i64 0) := F2.out.cell 1 rfl; have v0 := F2.out.fr 0; have v1 := F2.out.fr 1)
      refine bodyPost_ret (results_cell_row rfl _ _ w.heap.size 45 #[.int .i64 0, .int .i64 0] (0, 0) _ rfl ((F2.out.set 0 _).set 1 _) Tryd.underlying45 rfl (by kernel_rfl)) rfl ?_
      rw [HPQ.out, HE.out]
      refine ⟨rfl, ?_, kp_set (kp_set K2.out (.inr (.inr (.inr (Nat.le_refl _))))) (.inr (.inr (.inr (Nat.le_refl _))))⟩
      exact (M2.out.but ((But.refl w.heap.size _).set 0 _ |>.set 1 _) HNe.out)
    | some j =>
      rw [hl] at q34
      obtain ⟨hg1, -⟩ := least_get _ _ hl
      have hjn : j < n := by have := (List.getElem?_eq_some_iff.1 hg1).1; rw [hm.good.wt] at this; exact this
      obtain ⟨og, omu⟩ := off_good hm.good hg1
      have hsome : ((offS m j).at j).isSome = true := hm.good.wait j (by rw [List.getD_eq_getElem?_getD, hg1]; rfl)
      obtain ⟨c', rfl⟩ : ∃ c', c = c' + 1 := ⟨c - 1, by omega⟩
      rw [run_some hl] at hr
      have Q34 := hide q34
      have HF := hide hF
      have HK := hide hK
      have HMW : Hid (muF wr = muS m) := HMF.out m wr hm
      cases hlk : lookS ty cd (offS m j) j with
      | inr q =>
        obtain ⟨q1, q2⟩ := q
        rw [hlk] at hr
        have HE : Hid (R = .inr (q1, q2)) := hr.symm
        have hq2 : (q2 != 0) = true := by rcases look_err hlk with e | e <;> (have e : q2 = _ := e; rw [e]; rfl)
        have Q35 : Hid (∀ W, WM n g g1 g2 xs (offS m j) W → Kp g g1 g2 w W → Calls Tryd.prog 35 #[.pointer (some ⟨g, 0, none⟩), .int .i64 (j : Int)] W fun e w' => e = .returned (.agg #[.int .i64 q1, .int .i64 q2]) ∧ Kp g g1 g2 W w') := fun W h1 h2 => (m35.out W _ j h1 h2 hjn hsome).mono fun _ _ h => by rw [hlk] at h; exact h
        clear q34 hh hr hm hF hK hl hc hg1 og omu hsome hlk hjn
        go_wp2_with (go_at_call 34; refine Q34.out.mono ?_; rintro e w2 ⟨rfl, hm2, k2⟩; have M2 := hide hm2; have F2 := hide (k2.ob HF.out HNe.out); have K2 := hide (HK.out.trans k2); clear k2 hm2)
        refine (Q35.out _ M2.out K2.out).mono ?_
        rintro e w3 ⟨rfl, k3⟩
        have F3 := hide (k3.ob F2.out HNe.out)
        have K3 := hide (K2.out.trans k3)
        clear k3
        have u0 : w3.cell? ⟨w.heap.size, 0, none⟩ = some (.int .i64 0) := F3.out.cell 0 rfl
        have u1 : w3.cell? ⟨w.heap.size, 1, none⟩ = some (.int .i64 0) := F3.out.cell 1 rfl
        have v0 := F3.out.fr 0
        have v1 := F3.out.fr 1
        have z3 := F3.out.lt
        have nn : w.heap.size ≠ w3.heap.size := by omega
        go_wp2
        refine bodyPost_ret (results_cell_row rfl _ _ w.heap.size 45 #[.int .i64 q1, .int .i64 q2] (0, 0) _ rfl (Ob.on ((F3.out.set 0 _).set 1 _) ((Below.refl _ _).alloc (Nat.le_refl _) _) (by simp; omega)) Tryd.underlying45 rfl (by kernel_rfl)) rfl ?_
        rw [HPQ.out, HE.out]
        exact ⟨rfl, (kp_set (kp_set K3.out (.inr (.inr (.inr (Nat.le_refl _))))) (.inr (.inr (.inr (Nat.le_refl _))))).alloc _⟩
      | inl m' =>
        rw [hlk] at hr
        have HE := hide hr
        obtain ⟨gm, um⟩ := HG.out (offS m j) m' j og hjn hlk
        have hc' : muS m' ≤ c' := by omega
        have HC' := hide hc'
        have HU : Hid (muS m' < muS m) := by show _ < _; omega
        have Q35 : Hid (∀ W, WM n g g1 g2 xs (offS m j) W → Kp g g1 g2 w W → Calls Tryd.prog 35 #[.pointer (some ⟨g, 0, none⟩), .int .i64 (j : Int)] W fun e w' => e = .returned (.agg #[.int .i64 0, .int .i64 0]) ∧ WM n g g1 g2 xs m' w' ∧ Kp g g1 g2 W w') := fun W h1 h2 => (m35.out W _ j h1 h2 hjn hsome).mono fun _ _ h => by rw [hlk] at h; exact h
        clear q34 hh hr hm hF hK hl hc hg1 og omu hsome hlk hjn gm um hc'
        go_wp2_with (first | (go_at_call 34; refine Q34.out.mono ?_; rintro e w2 ⟨rfl, hm2, k2⟩; have M2 := hide hm2; have F2 := hide (k2.ob HF.out HNe.out); have K2 := hide (HK.out.trans k2); clear k2 hm2) | (go_at_call 35; refine (Q35.out _ M2.out K2.out).mono ?_; rintro e w3 ⟨rfl, hm3, k3⟩; have M3 := hide hm3; have F3 := hide (k3.ob F2.out HNe.out); have K3 := hide (K2.out.trans k3); clear k3 hm3))
        go_roundw
        case rel => exact ⟨c', m', HC'.out, HE.out, M3.out.on ((Below.refl _ _).alloc (Nat.le_refl _) _), F3.out.on ((Below.refl _ _).alloc (Nat.le_refl _) _) F3.out.lt, K3.out.alloc _⟩
        case measure =>
          rw [HMW.out, HMF.out _ _ (M3.out.on ((Below.refl _ _).alloc (Nat.le_refl _) _))]
          exact HU.out
end Go.Proofs.YtlckedionmgjjaaDoor
