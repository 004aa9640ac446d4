/- Slices of ints that read as a list; the contracts of Count, the program's and the document's. -/
import Derived.Test.YtaffoannpnifmaaUnW
import Derived.OwnWalk
import Derived.Deep.DeepAppendWide
import Derived.Deep.QuietTactic
import Derived.BigQuiet
import Derived.Deep.DeepMust
namespace Go.Proofs.Ytaffoannpnifmaa
open Go.RowKit
attribute [local go_sem] run_store_complex run_store_float unary_neg_float
def intC (l : List Int) : List Value := l.map fun x => .int .i64 x
theorem intC_length (l : List Int) : (intC l).length = l.length := by rw [intC, List.length_map]
theorem intC_append (a b : List Int) : intC (a ++ b) = intC a ++ intC b := List.map_append
theorem intC_get (l : List Int) (i : Nat) : (intC l)[i]? = (l[i]?).map fun x => .int .i64 x := by rw [intC, List.getElem?_map]
theorem intC_one (l : List Int) : ∀ u ∈ intC l, u.oneCell' = true := fun u hu => by
  obtain ⟨d, _, rfl⟩ := List.mem_map.1 hu; rfl
/-- a slice that reads as a list -/
def ILst (w : World) (v : Value) (l : List Int) : Prop :=
  ∃ a b off cap, v = .slice a l.length cap ∧ (0 < l.length → b < w.heap.size ∧ a = some ⟨b, off, none⟩) ∧ ∀ i x, l[i]? = some x → w.cell? ⟨b, off + i, none⟩ = some (.int .i64 x)
theorem ILst.on {w w' : World} {v : Value} {l : List Int} (h : ILst w v l) (hb : Below w.heap.size w w') : ILst w' v l := by
  obtain ⟨a, b, off, cap, rfl, hA, hI⟩ := h
  refine ⟨a, b, off, cap, rfl, fun h => ⟨Nat.lt_of_lt_of_le (hA h).1 hb.size, (hA h).2⟩, fun i x hx => ?_⟩
  have hlt : b < w.heap.size := (hA (Nat.lt_of_le_of_lt (Nat.zero_le _) (List.getElem?_eq_some_iff.1 hx).1)).1
  exact (hb.cell (p := ⟨b, off + i, none⟩) hlt).trans (hI i x hx)
theorem ILst.nil (w : World) (c : Nat) : ILst w (.slice none 0 c) [] := ⟨none, 0, 0, c, rfl, fun h => absurd h (Nat.lt_irrefl 0), fun i x hx => by cases hx⟩
theorem ILst.of_owns {w : World} {base : Nat} {v : Value} {l : List Int} (h : w.ownsRow base 3 1 v l.length (intC l)) : ILst w v l := by
  rcases h.2 with ⟨hv, h0⟩ | ⟨g, cap, cur, hv, hb, hg, hn, hm, hc, ht⟩
  · obtain rfl := List.eq_nil_of_length_eq_zero h0
    subst hv
    exact ILst.nil w 0
  · subst hv
    refine ⟨_, g, 0, cap, rfl, fun _ => ⟨?_, rfl⟩, fun i x hx => ?_⟩
    · exact (Array.getElem?_eq_some_iff.1 hg).1
    · have hi : i < l.length := (List.getElem?_eq_some_iff.1 hx).1
      rw [Nat.zero_add, h.cellAt i (by omega), intC_get, hx]; rfl
theorem ILst.shape {w : World} {v : Value} {l : List Int} (h : ILst w v l) : ∃ a cap, v = .slice a l.length cap := by
  obtain ⟨a, b, off, cap, rfl, _⟩ := h
  exact ⟨a, cap, rfl⟩
/-- the places of a list, and the sum of the steps between the first k of them, and how often it jumped -/
def gt (l : List Int) (k : Nat) : Nat := (l.getD k 0).toNat
def sS (l : List Int) : Nat → Int
  | 0 => 0
  | 1 => 0
  | k + 2 => sS l (k + 1) + stp (gt l k) (gt l (k + 1))
def sJ (l : List Int) : Nat → Nat
  | 0 => 0
  | 1 => 0
  | k + 2 => sJ l (k + 1) + (if jmp (gt l k) (gt l (k + 1)) then 1 else 0)
theorem stp_in (m n : Nat) : -1 ≤ stp m n ∧ stp m n ≤ 1 := by unfold stp; repeat' split
                                                              all_goals omega
theorem sS_in (l : List Int) : ∀ k : Nat, -(k : Int) ≤ sS l k ∧ sS l k ≤ (k : Int)
  | 0 => by rw [sS]; omega
  | 1 => by rw [sS]; omega
  | k + 2 => by
    have h := sS_in l (k + 1)
    have h2 := stp_in (gt l k) (gt l (k + 1))
    rw [sS]
    omega
theorem sJ_in (l : List Int) : ∀ k : Nat, sJ l k ≤ k
  | 0 => by rw [sJ]; omega
  | 1 => by rw [sJ]; omega
  | k + 2 => by
    have h := sJ_in l (k + 1)
    rw [sJ]
    split <;> omega
theorem gt_at {l : List Int} {k : Nat} {x : Int} (h : l[k]? = some x) : gt l k = x.toNat := by unfold gt; rw [List.getD_eq_getElem?_getD, h]; rfl
/-- what Count answers -/
def cntV (l : List Int) : Int × Int × Int := if l.all isP then (sS l l.length, (sJ l l.length : Int), 0) else (0, 0, 1)
theorem all_take {l : List Int} {k : Nat} {x : Int} (h : (l.take k).all isP = true) (hx : l[k]? = some x) (h2 : isP x = true) : (l.take (k + 1)).all isP = true := by
  obtain ⟨hk, rfl⟩ := List.getElem?_eq_some_iff.1 hx
  rw [List.take_succ_eq_append_getElem hk, List.all_append, h, Bool.true_and, List.all_cons, h2]; rfl
theorem all_no {l : List Int} {k : Nat} {x : Int} (hx : l[k]? = some x) (h2 : isP x = false) : l.all isP = false := by
  rw [List.all_eq_false]
  exact ⟨x, List.mem_of_getElem? hx, by rw [h2]; decide⟩
set_option maxRecDepth 100000 in
set_option maxHeartbeats 1600000 in
theorem count_any (v : Value) (l : List Int) (w : World) (hL : ILst w v l) (hlen : l.length ≤ 35184372088832) : Calls Try.prog 22 #[v] w fun e w' => e = .returned (.tuple #[.int .i64 (cntV l).1, .int .i64 (cntV l).2.1, .int .i64 (cntV l).2.2]) ∧ Below w.heap.size w w' := by
  obtain ⟨a, b, off, cap, rfl, hA, hI⟩ := hL
  have HA := hide hA
  have HI := hide hI
  obtain ⟨N, hN⟩ : ∃ N, N = l.length := ⟨_, rfl⟩
  have HN := hide hN
  rw [← hN] at hlen ⊢
  have n5 : (N : Int) ≤ 35184372088832 := by omega
  have n0 : (0 : Int) ≤ (N : Int) := by omega
  clear hN hA hI
  go_enter Try.func22, Try.ntmps22
  go_wp2_with fail
  go_loopw [2, 3, 5, 6, 7, 8, 9, 10, 11, 14] (fun s j la _ _ _ _ _ _ i wr => ∃ (k x y : Nat) (S : Int) (J : Nat), k ≤ N ∧ i = .int .i64 (k : Int) ∧ s = .int .i64 S ∧ j = .int .i64 (J : Int) ∧ la = .complex .f64 x y ∧ Hid (S = sS l k ∧ J = sJ l k ∧ (0 < k → plc x y = some (gt l (k - 1))) ∧ (l.take k).all isP = true ∧ Below w.heap.size w wr)) (fun _ _ _ _ _ _ _ _ _ i _ => N - (intOf i).toNat)
  case atStart => exact ⟨0, 0, 0, 0, 0, by omega, rfl, rfl, rfl, rfl, rfl, rfl, fun h => absurd h (Nat.lt_irrefl 0), rfl, Below.refl _ _⟩
  case round =>
    obtain ⟨k, x, y, S, J, hk, rfl, rfl, rfl, rfl, hh⟩ := hrel
    have s1 : -(k : Int) ≤ S ∧ S ≤ k := by rw [hh.out.1]; exact sS_in l k
    have s2 : (J : Int) ≤ k := by rw [hh.out.2.1]; exact Int.ofNat_le.2 (sJ_in l k)
    obtain ⟨s1, s3⟩ := s1
    have HB := hide hh.out.2.2.2.2
    by_cases hlt : k < N
    · have j1 : (k : Int) < (N : Int) := by omega
      have j0 : (0 : Int) ≤ (k : Int) := by omega
      obtain ⟨z, hz⟩ : ∃ z, l[k]? = some z := ⟨_, List.getElem?_eq_getElem (by rw [← HN.out]; exact hlt)⟩
      have HZ := hide hz
      obtain ⟨hbw, rfl⟩ := HA.out (by rw [← HN.out]; omega)
      have c0 := (HB.out.cell (p := ⟨b, off + k, none⟩) hbw).trans (HI.out k z hz)
      clear hz
      by_cases hp : isP z = true
      · obtain ⟨q, hq, rfl⟩ := isP_nat hp
        have m1 := fun W => unit_ok q hq W
        have HU := hide (u_plc hq)
        have HG : Hid (gt l k = q) := by show _ = _; rw [gt_at HZ.out]; exact Int.toNat_natCast q
        generalize uRe q = ux at *
        generalize uIm q = uy at *
        have HT := hide (all_take hh.out.2.2.2.1 HZ.out hp)
        have HSJ := hide hh.out.1
        have HJJ := hide hh.out.2.1
        have HPL := hide hh.out.2.2.1
        clear hp hh
        by_cases h0 : k = 0
        · subst h0
          have j3 : (0 : Int) < (N : Int) := by omega
          rw [Nat.add_zero] at c0
          clear HPL j1 j0 s1 s3 s2 hk
          go_wp2_with (first | (go_at_call 12; refine (m1 _).mono ?_; rintro e w1 ⟨rfl, hb1⟩))
          go_roundw
          case rel => exact ⟨1, ux, uy, S, J, by omega, rfl, rfl, rfl, rfl, by rw [HSJ.out, sS, sS], by rw [HJJ.out, sJ, sJ], fun _ => by rw [HU.out]; exact congrArg some HG.out.symm, HT.out, HB.out.trans (hb1.mono HB.out.size)⟩
          case measure => simp [intOf]; omega
        · have j2 : (0 : Int) < (k : Int) := by omega
          have m2 := fun W => between_any x y ux uy _ _ (HPL.out (by omega)) HU.out W
          obtain ⟨D, hD⟩ : ∃ D, D = stp (gt l (k - 1)) q := ⟨_, rfl⟩
          obtain ⟨jj, hjj⟩ : ∃ jj, jj = jmp (gt l (k - 1)) q := ⟨_, rfl⟩
          have d1 := stp_in (gt l (k - 1)) q
          rw [← hD] at d1
          obtain ⟨d1, d2⟩ := d1
          rw [← hD, ← hjj] at m2
          have HS' : Hid (S + D = sS l (k + 1)) := by
            show _ = _
            rw [HSJ.out, hD]
            obtain ⟨k', rfl⟩ : ∃ k', k = k' + 1 := ⟨k - 1, by omega⟩
            rw [sS, HG.out]; rfl
          have HJ' : Hid (J + (if jj then 1 else 0) = sJ l (k + 1)) := by
            show _ = _
            rw [HJJ.out, hjj]
            obtain ⟨k', rfl⟩ : ∃ k', k = k' + 1 := ⟨k - 1, by omega⟩
            rw [sJ, HG.out]; rfl
          clear hD hjj h0 HPL HSJ HJJ
          cases jj
          all_goals
            go_wp2_with (first | (go_at_call 12; refine (m1 _).mono ?_; rintro e w1 ⟨rfl, hb1⟩) | (go_at_call 29; refine (m2 _).mono ?_; rintro e w2 ⟨rfl, rfl⟩))
            go_roundw
            case rel => exact ⟨k + 1, ux, uy, _, _, by omega, by go_num, rfl, by first | rfl | go_num, rfl, HS'.out, HJ'.out, fun _ => by rw [HU.out]; exact congrArg some HG.out.symm, HT.out, HB.out.trans (hb1.mono HB.out.size)⟩
            case measure => simp [intOf]; omega
      · have m1 := fun W => unit_no z (Bool.eq_false_iff.2 hp) W
        have HC : Hid (cntV l = (0, 0, 1)) := by show _ = _; unfold cntV; rw [all_no HZ.out (Bool.eq_false_iff.2 hp)]; rfl
        clear hp hh
        go_wp2_with (first | (go_at_call 12; refine (m1 _).mono ?_; rintro e w1 ⟨rfl, hb1⟩))
        go_ret3
        exact ⟨by rw [HC.out]; rfl, HB.out.trans (hb1.mono HB.out.size)⟩
    · have HC : Hid (cntV l = (S, (J : Int), 0)) := by
        show _ = _
        have e : k = l.length := by rw [← HN.out]; omega
        have h4 := hh.out.2.2.2.1
        rw [e, List.take_length] at h4
        unfold cntV
        rw [if_pos h4, hh.out.1, hh.out.2.1, e]
      have i5 : ¬ (k : Int) < (N : Int) := by omega
      clear hh hlt
      go_wp2
      go_ret3
      exact ⟨by rw [HC.out]; rfl, HB.out⟩
end Go.Proofs.Ytaffoannpnifmaa
