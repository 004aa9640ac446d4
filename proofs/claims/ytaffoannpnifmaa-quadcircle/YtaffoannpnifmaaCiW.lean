/- The walk of QuadCircle. -/
import Derived.Test.YtaffoannpnifmaaWoW
namespace Go.Proofs.Ytaffoannpnifmaa
open Go.RowKit
theorem rem4 (a : Int) : ∃ A : Nat, A < 4 ∧ wrap64 ((IntKind.u64.wrap a).tmod 4) = (A : Int) := by
  have h : IntKind.u64.wrap a = a % 18446744073709551616 := rfl
  rw [h, Int.tmod_eq_emod_of_nonneg (by omega)]
  refine ⟨(a % 18446744073709551616 % 4).toNat, by omega, ?_⟩
  unfold wrap64
  omega
theorem cir_in : ∀ a, a < 4 → ∀ b, b < 4 → (stepV (a : Nat) (b : Nat)) ∈ [((0 : Int), (0 : Int)), (1, 0), (-1, 0), (0, 110)] := by decide
def cirB (p q r : Int × Int) : Bool := !(p.2 == 0) || !(q.2 == 0) || (r == (if p.1 + q.1 == 2 || p.1 + q.1 == -2 then (0, 110) else (p.1 + q.1, 0)))
theorem cir_all : ((List.range 4).all fun a => (List.range 4).all fun b => (List.range 4).all fun c => cirB (stepV (a : Nat) (b : Nat)) (stepV (b : Nat) (c : Nat)) (stepV (a : Nat) (c : Nat))) = true := by decide
theorem cir_r (a : Nat) (ha : a < 4) (b : Nat) (hb : b < 4) (c : Nat) (hc : c < 4) : cirB (stepV (a : Nat) (b : Nat)) (stepV (b : Nat) (c : Nat)) (stepV (a : Nat) (c : Nat)) = true := by
  have h := cir_all
  rw [List.all_eq_true] at h
  have h := h a (List.mem_range.2 ha)
  rw [List.all_eq_true] at h
  have h := h b (List.mem_range.2 hb)
  rw [List.all_eq_true] at h
  exact h c (List.mem_range.2 hc)
theorem turn_step {a b : Nat} (ha : a < 4) (hb : b < 4) : turnV (some a) (some b) = stepV (a : Int) (b : Int) := by unfold stepV turnV; rw [isP_of ha, isP_of hb]; rfl
set_option maxRecDepth 100000 in
set_option maxHeartbeats 3200000 in
theorem circle_law (a b c : Int) (w : World) :
    Calls Try.prog 7 #[.int .i64 a, .int .i64 b, .int .i64 c] w fun e w' => e = .returned (.bool true) ∧ Below w.heap.size w w' := by
  have mw := fun W => works_any W
  obtain ⟨A, hA, eA⟩ := rem4 a
  obtain ⟨B, hB, eB⟩ := rem4 b
  obtain ⟨C, hC, eC⟩ := rem4 c
  have mu := fun W => unit_ok A hA W
  have mv := fun W => unit_ok B hB W
  have p1 := u_plc hA
  have p2 := u_plc hB
  have mt := fun W => turn_any _ _ _ _ (plc_wf p1).1 (plc_wf p1).2 (plc_wf p2).1 (plc_wf p2).2 W
  rw [p1, p2, turn_step hA hB] at mt
  have m1 := fun W => step_any A B W
  have m2 := fun W => step_any B C W
  have m3 := fun W => step_any A C W
  have h1 := cir_in A hA B hB
  have h2 := cir_in B hB C hC
  have h3 := cir_r A hA B hB C hC
  generalize stepV A B = p at *
  generalize stepV B C = q at *
  generalize stepV A C = r at *
  generalize uRe A = ux at *
  generalize uIm A = uy at *
  generalize uRe B = vx at *
  generalize uIm B = vy at *
  clear p1 p2 hA hB hC
  simp only [List.mem_cons, List.not_mem_nil, or_false] at h1 h2
  rcases h1 with rfl | rfl | rfl | rfl <;> rcases h2 with rfl | rfl | rfl | rfl
  all_goals
    simp [cirB] at h3
    first | subst h3 | skip
  all_goals
    dsimp only at m1 m2 m3 mt
    go_enter Try.func7, Try.ntmps7
    go_wp2_with (first | (go_at_call 17; refine (mw _).mono ?_; rintro e w1 ⟨rfl, hb1⟩) | (go_at_call 12; first | ((with_reducible refine (mu _).mono ?_); rintro e w2 ⟨rfl, hb2⟩) | ((with_reducible refine (mv _).mono ?_); rintro e w3 ⟨rfl, hb3⟩)) | (go_at_call 18; refine (mt _).mono ?_; rintro e w5 ⟨rfl, hb5⟩) | (go_at_call 15; first | ((with_reducible refine (m1 _).mono ?_); rintro e w4 ⟨rfl, hb4⟩) | ((with_reducible refine (m2 _).mono ?_); rintro e w6 ⟨rfl, hb6⟩) | ((with_reducible refine (m3 _).mono ?_); rintro e w7 ⟨rfl, hb7⟩)))
    go_ret
    exact ⟨rfl, blw (blw (blw (blw (blw (blw hb1 hb2) hb3) hb4) hb5) hb6) hb7⟩
end Go.Proofs.Ytaffoannpnifmaa
