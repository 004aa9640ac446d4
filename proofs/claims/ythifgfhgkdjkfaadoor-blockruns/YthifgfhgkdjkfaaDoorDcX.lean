/- The document's timer, kind 2. -/
import Derived.Test.YthifgfhgkdjkfaaDoorMg17
namespace Go.Proofs.YthifgfhgkdjkfaaDoor
open Go.RowKit
set_option maxRecDepth 100000 in
set_option maxHeartbeats 9600000 in
theorem rtof (g cap : Nat) (now : Int) (t : Tm) (w : World) (hn : fitB 4 now = true) (hs : fitB 4 t.s = true) (h : Rw w g t.ls) : Calls Tryd.prog 25 #[.int .i64 2, .slice (some ⟨g, 0, none⟩) 6 cap, .int .i64 now] w fun e w' => e = .returned (.tuple #[]) ∧ Rw w' g (tofT now t).ls ∧ Below g w w' := by
  obtain ⟨i, p, q, e, s, r⟩ := t
  change fitB 4 s = true at hs
  have mf := flag12
  have mg1 := gone12 now now hn hn
  have mg2 := gone12 now s hn hs
  clear hn hs
  cases i <;> cases q <;> cases r
  · have H : Hid (Rw w g [0, p, 0, e, s, 0]) := h
    have E : (tofT now ⟨false, p, false, e, s, false⟩).ls = [0, p, 0, e, s, 0] := by simp [tofT, Tm.ls, flagN]
    rw [E]
    clear E h
    have mg := mg2
    clear mg1 mg2
    have c0 : w.cell? ⟨g, 0, none⟩ = some (.int .i64 (0)) := H.out.cell 0 rfl
    have f0 := H.out.fr 0
    have c1 : w.cell? ⟨g, 1, none⟩ = some (.int .i64 (p)) := H.out.cell 1 rfl
    have f1 := H.out.fr 1
    have c2 : w.cell? ⟨g, 2, none⟩ = some (.int .i64 (0)) := H.out.cell 2 rfl
    have f2 := H.out.fr 2
    have c3 : w.cell? ⟨g, 3, none⟩ = some (.int .i64 (e)) := H.out.cell 3 rfl
    have f3 := H.out.fr 3
    have c4 : w.cell? ⟨g, 4, none⟩ = some (.int .i64 (s)) := H.out.cell 4 rfl
    have f4 := H.out.fr 4
    have c5 : w.cell? ⟨g, 5, none⟩ = some (.int .i64 (0)) := H.out.cell 5 rfl
    have f5 := H.out.fr 5
    go_enter Tryd.func25, Tryd.ntmps25
    go_wp2_with (first | (go_at_call 40; refine (mg _).mono ?_; rintro e_ w1 ⟨rfl, rfl⟩) | (go_at_call 27; refine (mf _ _).mono ?_; rintro e_ w1 ⟨rfl, rfl⟩))
    first | refine bodyPost_end (results_none rfl _ _ _) rfl ⟨rfl, ?_, ?_⟩ | refine bodyPost_ret (results_none rfl _ _ _) rfl ⟨rfl, ?_, ?_⟩
    · (repeat (first | exact H.out | apply Rw.set)) <;> rfl
    · repeat (first | exact Below.refl g _ | refine Below.setCell ?_ (Nat.le_refl g) _)
  · have H : Hid (Rw w g [0, p, 0, e, s, 1]) := h
    have E : (tofT now ⟨false, p, false, e, s, true⟩).ls = [0, p, 0, e, s, 1] := by simp [tofT, Tm.ls, flagN]
    rw [E]
    clear E h
    have mg := mg2
    clear mg1 mg2
    have c0 : w.cell? ⟨g, 0, none⟩ = some (.int .i64 (0)) := H.out.cell 0 rfl
    have f0 := H.out.fr 0
    have c1 : w.cell? ⟨g, 1, none⟩ = some (.int .i64 (p)) := H.out.cell 1 rfl
    have f1 := H.out.fr 1
    have c2 : w.cell? ⟨g, 2, none⟩ = some (.int .i64 (0)) := H.out.cell 2 rfl
    have f2 := H.out.fr 2
    have c3 : w.cell? ⟨g, 3, none⟩ = some (.int .i64 (e)) := H.out.cell 3 rfl
    have f3 := H.out.fr 3
    have c4 : w.cell? ⟨g, 4, none⟩ = some (.int .i64 (s)) := H.out.cell 4 rfl
    have f4 := H.out.fr 4
    have c5 : w.cell? ⟨g, 5, none⟩ = some (.int .i64 (1)) := H.out.cell 5 rfl
    have f5 := H.out.fr 5
    go_enter Tryd.func25, Tryd.ntmps25
    go_wp2_with (first | (go_at_call 40; refine (mg _).mono ?_; rintro e_ w1 ⟨rfl, rfl⟩) | (go_at_call 27; refine (mf _ _).mono ?_; rintro e_ w1 ⟨rfl, rfl⟩))
    first | refine bodyPost_end (results_none rfl _ _ _) rfl ⟨rfl, ?_, ?_⟩ | refine bodyPost_ret (results_none rfl _ _ _) rfl ⟨rfl, ?_, ?_⟩
    · (repeat (first | exact H.out | apply Rw.set)) <;> rfl
    · repeat (first | exact Below.refl g _ | refine Below.setCell ?_ (Nat.le_refl g) _)
  · obtain ⟨M, hM⟩ : ∃ M, M = min (goneN now now) p := ⟨_, rfl⟩
    have emin : ∀ (ts : Array TypeId) (t : TypeId) (W : World), (Builtin.min_ ts t #[.int .i64 (goneN now now), .int .i64 p]).run Tryd.prog W = .ok (.int .i64 M) W := fun ts t W => by rw [run_min_int2]; exact congrArg (fun z => Result.ok (Value.int .i64 z) W) (by rw [hM]; split <;> omega)
    by_cases hle : p ≤ goneN now now
    · have H : Hid (Rw w g [0, p, 1, e, s, 0]) := h
      have E : (tofT now ⟨false, p, true, e, s, false⟩).ls = [0, p, 0, M, now, 0] := by simp [tofT, Tm.ls, flagN, hle, hM]
      rw [E]
      clear E h
      have mg := mg1
      clear mg1 mg2
      clear hM
      have hd1 : decide (p ≤ goneN now now) = true := by simp; omega
      have hd2 : decide (goneN now now < p) = false := by simp; omega
      have mfa : ∀ W, Calls Tryd.prog 27 #[.bool (decide (p ≤ goneN now now))] W fun e w' => e = .returned (.int .i64 1) ∧ w' = W := fun W => by rw [hd1]; exact flag12 _ W
      have mfb : ∀ W, Calls Tryd.prog 27 #[.bool (decide (goneN now now < p))] W fun e w' => e = .returned (.int .i64 0) ∧ w' = W := fun W => by rw [hd2]; exact flag12 _ W
      have mft : ∀ W, Calls Tryd.prog 27 #[.bool true] W fun e w' => e = .returned (.int .i64 1) ∧ w' = W := fun W => flag12 true W
      have mff : ∀ W, Calls Tryd.prog 27 #[.bool false] W fun e w' => e = .returned (.int .i64 0) ∧ w' = W := fun W => flag12 false W
      clear hd1 hd2 mf
      generalize goneN now now = G at *
      have c0 : w.cell? ⟨g, 0, none⟩ = some (.int .i64 (0)) := H.out.cell 0 rfl
      have f0 := H.out.fr 0
      have c1 : w.cell? ⟨g, 1, none⟩ = some (.int .i64 (p)) := H.out.cell 1 rfl
      have f1 := H.out.fr 1
      have c2 : w.cell? ⟨g, 2, none⟩ = some (.int .i64 (1)) := H.out.cell 2 rfl
      have f2 := H.out.fr 2
      have c3 : w.cell? ⟨g, 3, none⟩ = some (.int .i64 (e)) := H.out.cell 3 rfl
      have f3 := H.out.fr 3
      have c4 : w.cell? ⟨g, 4, none⟩ = some (.int .i64 (s)) := H.out.cell 4 rfl
      have f4 := H.out.fr 4
      have c5 : w.cell? ⟨g, 5, none⟩ = some (.int .i64 (0)) := H.out.cell 5 rfl
      have f5 := H.out.fr 5
      go_enter Tryd.func25, Tryd.ntmps25
      go_wp2_with (first | (go_at_call 40; refine (mg _).mono ?_; rintro e_ w1 ⟨rfl, rfl⟩) | (go_at_call 27; first | ((with_reducible refine (mft _).mono ?_); rintro e_ w1 ⟨rfl, rfl⟩) | ((with_reducible refine (mff _).mono ?_); rintro e_ w1 ⟨rfl, rfl⟩) | ((with_reducible refine (mfa _).mono ?_); rintro e_ w1 ⟨rfl, rfl⟩) | ((with_reducible refine (mfb _).mono ?_); rintro e_ w1 ⟨rfl, rfl⟩)))
      first | refine bodyPost_end (results_none rfl _ _ _) rfl ⟨rfl, ?_, ?_⟩ | refine bodyPost_ret (results_none rfl _ _ _) rfl ⟨rfl, ?_, ?_⟩
      · (repeat (first | exact H.out | apply Rw.set)) <;> rfl
      · repeat (first | exact Below.refl g _ | refine Below.setCell ?_ (Nat.le_refl g) _)
    · have hnle : goneN now now < p := by omega
      have H : Hid (Rw w g [0, p, 1, e, s, 0]) := h
      have E : (tofT now ⟨false, p, true, e, s, false⟩).ls = [0, p, 1, M, now, 1] := by simp [tofT, Tm.ls, flagN, hle, hM]
      rw [E]
      clear E h
      have mg := mg1
      clear mg1 mg2
      clear hM
      have hd1 : decide (p ≤ goneN now now) = false := by simp; omega
      have hd2 : decide (goneN now now < p) = true := by simp; omega
      have mfa : ∀ W, Calls Tryd.prog 27 #[.bool (decide (p ≤ goneN now now))] W fun e w' => e = .returned (.int .i64 0) ∧ w' = W := fun W => by rw [hd1]; exact flag12 _ W
      have mfb : ∀ W, Calls Tryd.prog 27 #[.bool (decide (goneN now now < p))] W fun e w' => e = .returned (.int .i64 1) ∧ w' = W := fun W => by rw [hd2]; exact flag12 _ W
      have mft : ∀ W, Calls Tryd.prog 27 #[.bool true] W fun e w' => e = .returned (.int .i64 1) ∧ w' = W := fun W => flag12 true W
      have mff : ∀ W, Calls Tryd.prog 27 #[.bool false] W fun e w' => e = .returned (.int .i64 0) ∧ w' = W := fun W => flag12 false W
      clear hd1 hd2 mf
      generalize goneN now now = G at *
      have c0 : w.cell? ⟨g, 0, none⟩ = some (.int .i64 (0)) := H.out.cell 0 rfl
      have f0 := H.out.fr 0
      have c1 : w.cell? ⟨g, 1, none⟩ = some (.int .i64 (p)) := H.out.cell 1 rfl
      have f1 := H.out.fr 1
      have c2 : w.cell? ⟨g, 2, none⟩ = some (.int .i64 (1)) := H.out.cell 2 rfl
      have f2 := H.out.fr 2
      have c3 : w.cell? ⟨g, 3, none⟩ = some (.int .i64 (e)) := H.out.cell 3 rfl
      have f3 := H.out.fr 3
      have c4 : w.cell? ⟨g, 4, none⟩ = some (.int .i64 (s)) := H.out.cell 4 rfl
      have f4 := H.out.fr 4
      have c5 : w.cell? ⟨g, 5, none⟩ = some (.int .i64 (0)) := H.out.cell 5 rfl
      have f5 := H.out.fr 5
      go_enter Tryd.func25, Tryd.ntmps25
      go_wp2_with (first | (go_at_call 40; refine (mg _).mono ?_; rintro e_ w1 ⟨rfl, rfl⟩) | (go_at_call 27; first | ((with_reducible refine (mft _).mono ?_); rintro e_ w1 ⟨rfl, rfl⟩) | ((with_reducible refine (mff _).mono ?_); rintro e_ w1 ⟨rfl, rfl⟩) | ((with_reducible refine (mfa _).mono ?_); rintro e_ w1 ⟨rfl, rfl⟩) | ((with_reducible refine (mfb _).mono ?_); rintro e_ w1 ⟨rfl, rfl⟩)))
      first | refine bodyPost_end (results_none rfl _ _ _) rfl ⟨rfl, ?_, ?_⟩ | refine bodyPost_ret (results_none rfl _ _ _) rfl ⟨rfl, ?_, ?_⟩
      · (repeat (first | exact H.out | apply Rw.set)) <;> rfl
      · repeat (first | exact Below.refl g _ | refine Below.setCell ?_ (Nat.le_refl g) _)
  · obtain ⟨M, hM⟩ : ∃ M, M = min (goneN now s) p := ⟨_, rfl⟩
    have emin : ∀ (ts : Array TypeId) (t : TypeId) (W : World), (Builtin.min_ ts t #[.int .i64 (goneN now s), .int .i64 p]).run Tryd.prog W = .ok (.int .i64 M) W := fun ts t W => by rw [run_min_int2]; exact congrArg (fun z => Result.ok (Value.int .i64 z) W) (by rw [hM]; split <;> omega)
    by_cases hle : p ≤ goneN now s
    · have H : Hid (Rw w g [0, p, 1, e, s, 1]) := h
      have E : (tofT now ⟨false, p, true, e, s, true⟩).ls = [0, p, 0, M, s, 0] := by simp [tofT, Tm.ls, flagN, hle, hM]
      rw [E]
      clear E h
      have mg := mg2
      clear mg1 mg2
      clear hM
      have hd1 : decide (p ≤ goneN now s) = true := by simp; omega
      have hd2 : decide (goneN now s < p) = false := by simp; omega
      have mfa : ∀ W, Calls Tryd.prog 27 #[.bool (decide (p ≤ goneN now s))] W fun e w' => e = .returned (.int .i64 1) ∧ w' = W := fun W => by rw [hd1]; exact flag12 _ W
      have mfb : ∀ W, Calls Tryd.prog 27 #[.bool (decide (goneN now s < p))] W fun e w' => e = .returned (.int .i64 0) ∧ w' = W := fun W => by rw [hd2]; exact flag12 _ W
      have mft : ∀ W, Calls Tryd.prog 27 #[.bool true] W fun e w' => e = .returned (.int .i64 1) ∧ w' = W := fun W => flag12 true W
      have mff : ∀ W, Calls Tryd.prog 27 #[.bool false] W fun e w' => e = .returned (.int .i64 0) ∧ w' = W := fun W => flag12 false W
      clear hd1 hd2 mf
      generalize goneN now s = G at *
      have c0 : w.cell? ⟨g, 0, none⟩ = some (.int .i64 (0)) := H.out.cell 0 rfl
      have f0 := H.out.fr 0
      have c1 : w.cell? ⟨g, 1, none⟩ = some (.int .i64 (p)) := H.out.cell 1 rfl
      have f1 := H.out.fr 1
      have c2 : w.cell? ⟨g, 2, none⟩ = some (.int .i64 (1)) := H.out.cell 2 rfl
      have f2 := H.out.fr 2
      have c3 : w.cell? ⟨g, 3, none⟩ = some (.int .i64 (e)) := H.out.cell 3 rfl
      have f3 := H.out.fr 3
      have c4 : w.cell? ⟨g, 4, none⟩ = some (.int .i64 (s)) := H.out.cell 4 rfl
      have f4 := H.out.fr 4
      have c5 : w.cell? ⟨g, 5, none⟩ = some (.int .i64 (1)) := H.out.cell 5 rfl
      have f5 := H.out.fr 5
      go_enter Tryd.func25, Tryd.ntmps25
      go_wp2_with (first | (go_at_call 40; refine (mg _).mono ?_; rintro e_ w1 ⟨rfl, rfl⟩) | (go_at_call 27; first | ((with_reducible refine (mft _).mono ?_); rintro e_ w1 ⟨rfl, rfl⟩) | ((with_reducible refine (mff _).mono ?_); rintro e_ w1 ⟨rfl, rfl⟩) | ((with_reducible refine (mfa _).mono ?_); rintro e_ w1 ⟨rfl, rfl⟩) | ((with_reducible refine (mfb _).mono ?_); rintro e_ w1 ⟨rfl, rfl⟩)))
      first | refine bodyPost_end (results_none rfl _ _ _) rfl ⟨rfl, ?_, ?_⟩ | refine bodyPost_ret (results_none rfl _ _ _) rfl ⟨rfl, ?_, ?_⟩
      · (repeat (first | exact H.out | apply Rw.set)) <;> rfl
      · repeat (first | exact Below.refl g _ | refine Below.setCell ?_ (Nat.le_refl g) _)
    · have hnle : goneN now s < p := by omega
      have H : Hid (Rw w g [0, p, 1, e, s, 1]) := h
      have E : (tofT now ⟨false, p, true, e, s, true⟩).ls = [0, p, 1, M, s, 1] := by simp [tofT, Tm.ls, flagN, hle, hM]
      rw [E]
      clear E h
      have mg := mg2
      clear mg1 mg2
      clear hM
      have hd1 : decide (p ≤ goneN now s) = false := by simp; omega
      have hd2 : decide (goneN now s < p) = true := by simp; omega
      have mfa : ∀ W, Calls Tryd.prog 27 #[.bool (decide (p ≤ goneN now s))] W fun e w' => e = .returned (.int .i64 0) ∧ w' = W := fun W => by rw [hd1]; exact flag12 _ W
      have mfb : ∀ W, Calls Tryd.prog 27 #[.bool (decide (goneN now s < p))] W fun e w' => e = .returned (.int .i64 1) ∧ w' = W := fun W => by rw [hd2]; exact flag12 _ W
      have mft : ∀ W, Calls Tryd.prog 27 #[.bool true] W fun e w' => e = .returned (.int .i64 1) ∧ w' = W := fun W => flag12 true W
      have mff : ∀ W, Calls Tryd.prog 27 #[.bool false] W fun e w' => e = .returned (.int .i64 0) ∧ w' = W := fun W => flag12 false W
      clear hd1 hd2 mf
      generalize goneN now s = G at *
      have c0 : w.cell? ⟨g, 0, none⟩ = some (.int .i64 (0)) := H.out.cell 0 rfl
      have f0 := H.out.fr 0
      have c1 : w.cell? ⟨g, 1, none⟩ = some (.int .i64 (p)) := H.out.cell 1 rfl
      have f1 := H.out.fr 1
      have c2 : w.cell? ⟨g, 2, none⟩ = some (.int .i64 (1)) := H.out.cell 2 rfl
      have f2 := H.out.fr 2
      have c3 : w.cell? ⟨g, 3, none⟩ = some (.int .i64 (e)) := H.out.cell 3 rfl
      have f3 := H.out.fr 3
      have c4 : w.cell? ⟨g, 4, none⟩ = some (.int .i64 (s)) := H.out.cell 4 rfl
      have f4 := H.out.fr 4
      have c5 : w.cell? ⟨g, 5, none⟩ = some (.int .i64 (1)) := H.out.cell 5 rfl
      have f5 := H.out.fr 5
      go_enter Tryd.func25, Tryd.ntmps25
      go_wp2_with (first | (go_at_call 40; refine (mg _).mono ?_; rintro e_ w1 ⟨rfl, rfl⟩) | (go_at_call 27; first | ((with_reducible refine (mft _).mono ?_); rintro e_ w1 ⟨rfl, rfl⟩) | ((with_reducible refine (mff _).mono ?_); rintro e_ w1 ⟨rfl, rfl⟩) | ((with_reducible refine (mfa _).mono ?_); rintro e_ w1 ⟨rfl, rfl⟩) | ((with_reducible refine (mfb _).mono ?_); rintro e_ w1 ⟨rfl, rfl⟩)))
      first | refine bodyPost_end (results_none rfl _ _ _) rfl ⟨rfl, ?_, ?_⟩ | refine bodyPost_ret (results_none rfl _ _ _) rfl ⟨rfl, ?_, ?_⟩
      · (repeat (first | exact H.out | apply Rw.set)) <;> rfl
      · repeat (first | exact Below.refl g _ | refine Below.setCell ?_ (Nat.le_refl g) _)
  · have H : Hid (Rw w g [1, p, 0, e, s, 0]) := h
    have E : (tofT now ⟨true, p, false, e, s, false⟩).ls = [1, p, 1, 0, s, 0] := by simp [tofT, Tm.ls, flagN]
    rw [E]
    clear E h
    have mg := mg2
    clear mg1 mg2
    have c0 : w.cell? ⟨g, 0, none⟩ = some (.int .i64 (1)) := H.out.cell 0 rfl
    have f0 := H.out.fr 0
    have c1 : w.cell? ⟨g, 1, none⟩ = some (.int .i64 (p)) := H.out.cell 1 rfl
    have f1 := H.out.fr 1
    have c2 : w.cell? ⟨g, 2, none⟩ = some (.int .i64 (0)) := H.out.cell 2 rfl
    have f2 := H.out.fr 2
    have c3 : w.cell? ⟨g, 3, none⟩ = some (.int .i64 (e)) := H.out.cell 3 rfl
    have f3 := H.out.fr 3
    have c4 : w.cell? ⟨g, 4, none⟩ = some (.int .i64 (s)) := H.out.cell 4 rfl
    have f4 := H.out.fr 4
    have c5 : w.cell? ⟨g, 5, none⟩ = some (.int .i64 (0)) := H.out.cell 5 rfl
    have f5 := H.out.fr 5
    go_enter Tryd.func25, Tryd.ntmps25
    go_wp2_with (first | (go_at_call 40; refine (mg _).mono ?_; rintro e_ w1 ⟨rfl, rfl⟩) | (go_at_call 27; refine (mf _ _).mono ?_; rintro e_ w1 ⟨rfl, rfl⟩))
    first | refine bodyPost_end (results_none rfl _ _ _) rfl ⟨rfl, ?_, ?_⟩ | refine bodyPost_ret (results_none rfl _ _ _) rfl ⟨rfl, ?_, ?_⟩
    · (repeat (first | exact H.out | apply Rw.set)) <;> rfl
    · repeat (first | exact Below.refl g _ | refine Below.setCell ?_ (Nat.le_refl g) _)
  · have H : Hid (Rw w g [1, p, 0, e, s, 1]) := h
    have E : (tofT now ⟨true, p, false, e, s, true⟩).ls = [1, p, 1, 0, s, 0] := by simp [tofT, Tm.ls, flagN]
    rw [E]
    clear E h
    have mg := mg2
    clear mg1 mg2
    have c0 : w.cell? ⟨g, 0, none⟩ = some (.int .i64 (1)) := H.out.cell 0 rfl
    have f0 := H.out.fr 0
    have c1 : w.cell? ⟨g, 1, none⟩ = some (.int .i64 (p)) := H.out.cell 1 rfl
    have f1 := H.out.fr 1
    have c2 : w.cell? ⟨g, 2, none⟩ = some (.int .i64 (0)) := H.out.cell 2 rfl
    have f2 := H.out.fr 2
    have c3 : w.cell? ⟨g, 3, none⟩ = some (.int .i64 (e)) := H.out.cell 3 rfl
    have f3 := H.out.fr 3
    have c4 : w.cell? ⟨g, 4, none⟩ = some (.int .i64 (s)) := H.out.cell 4 rfl
    have f4 := H.out.fr 4
    have c5 : w.cell? ⟨g, 5, none⟩ = some (.int .i64 (1)) := H.out.cell 5 rfl
    have f5 := H.out.fr 5
    go_enter Tryd.func25, Tryd.ntmps25
    go_wp2_with (first | (go_at_call 40; refine (mg _).mono ?_; rintro e_ w1 ⟨rfl, rfl⟩) | (go_at_call 27; refine (mf _ _).mono ?_; rintro e_ w1 ⟨rfl, rfl⟩))
    first | refine bodyPost_end (results_none rfl _ _ _) rfl ⟨rfl, ?_, ?_⟩ | refine bodyPost_ret (results_none rfl _ _ _) rfl ⟨rfl, ?_, ?_⟩
    · (repeat (first | exact H.out | apply Rw.set)) <;> rfl
    · repeat (first | exact Below.refl g _ | refine Below.setCell ?_ (Nat.le_refl g) _)
  · have H : Hid (Rw w g [1, p, 1, e, s, 0]) := h
    have E : (tofT now ⟨true, p, true, e, s, false⟩).ls = [1, p, 1, 0, s, 0] := by simp [tofT, Tm.ls, flagN]
    rw [E]
    clear E h
    have mg := mg2
    clear mg1 mg2
    have c0 : w.cell? ⟨g, 0, none⟩ = some (.int .i64 (1)) := H.out.cell 0 rfl
    have f0 := H.out.fr 0
    have c1 : w.cell? ⟨g, 1, none⟩ = some (.int .i64 (p)) := H.out.cell 1 rfl
    have f1 := H.out.fr 1
    have c2 : w.cell? ⟨g, 2, none⟩ = some (.int .i64 (1)) := H.out.cell 2 rfl
    have f2 := H.out.fr 2
    have c3 : w.cell? ⟨g, 3, none⟩ = some (.int .i64 (e)) := H.out.cell 3 rfl
    have f3 := H.out.fr 3
    have c4 : w.cell? ⟨g, 4, none⟩ = some (.int .i64 (s)) := H.out.cell 4 rfl
    have f4 := H.out.fr 4
    have c5 : w.cell? ⟨g, 5, none⟩ = some (.int .i64 (0)) := H.out.cell 5 rfl
    have f5 := H.out.fr 5
    go_enter Tryd.func25, Tryd.ntmps25
    go_wp2_with (first | (go_at_call 40; refine (mg _).mono ?_; rintro e_ w1 ⟨rfl, rfl⟩) | (go_at_call 27; refine (mf _ _).mono ?_; rintro e_ w1 ⟨rfl, rfl⟩))
    first | refine bodyPost_end (results_none rfl _ _ _) rfl ⟨rfl, ?_, ?_⟩ | refine bodyPost_ret (results_none rfl _ _ _) rfl ⟨rfl, ?_, ?_⟩
    · (repeat (first | exact H.out | apply Rw.set)) <;> rfl
    · repeat (first | exact Below.refl g _ | refine Below.setCell ?_ (Nat.le_refl g) _)
  · have H : Hid (Rw w g [1, p, 1, e, s, 1]) := h
    have E : (tofT now ⟨true, p, true, e, s, true⟩).ls = [1, p, 1, 0, s, 0] := by simp [tofT, Tm.ls, flagN]
    rw [E]
    clear E h
    have mg := mg2
    clear mg1 mg2
    have c0 : w.cell? ⟨g, 0, none⟩ = some (.int .i64 (1)) := H.out.cell 0 rfl
    have f0 := H.out.fr 0
    have c1 : w.cell? ⟨g, 1, none⟩ = some (.int .i64 (p)) := H.out.cell 1 rfl
    have f1 := H.out.fr 1
    have c2 : w.cell? ⟨g, 2, none⟩ = some (.int .i64 (1)) := H.out.cell 2 rfl
    have f2 := H.out.fr 2
    have c3 : w.cell? ⟨g, 3, none⟩ = some (.int .i64 (e)) := H.out.cell 3 rfl
    have f3 := H.out.fr 3
    have c4 : w.cell? ⟨g, 4, none⟩ = some (.int .i64 (s)) := H.out.cell 4 rfl
    have f4 := H.out.fr 4
    have c5 : w.cell? ⟨g, 5, none⟩ = some (.int .i64 (1)) := H.out.cell 5 rfl
    have f5 := H.out.fr 5
    go_enter Tryd.func25, Tryd.ntmps25
    go_wp2_with (first | (go_at_call 40; refine (mg _).mono ?_; rintro e_ w1 ⟨rfl, rfl⟩) | (go_at_call 27; refine (mf _ _).mono ?_; rintro e_ w1 ⟨rfl, rfl⟩))
    first | refine bodyPost_end (results_none rfl _ _ _) rfl ⟨rfl, ?_, ?_⟩ | refine bodyPost_ret (results_none rfl _ _ _) rfl ⟨rfl, ?_, ?_⟩
    · (repeat (first | exact H.out | apply Rw.set)) <;> rfl
    · repeat (first | exact Below.refl g _ | refine Below.setCell ?_ (Nat.le_refl g) _)
end Go.Proofs.YthifgfhgkdjkfaaDoor
