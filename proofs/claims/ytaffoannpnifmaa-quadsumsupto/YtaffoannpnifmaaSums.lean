/- PROVED HERE: for all slices of ints a and b that hold together at most 1048576 values the law QuadSums answers true, and its arguments read as before. -/
import Derived.Test.YtaffoannpnifmaaFrm
import Derived.Test.YtaffoannpnifmaaFrU
import Derived.Test.YtaffoannpnifmaaSuW
namespace Go.Proofs.Ytaffoannpnifmaa.quadSums
open Go.ChangeShapes Go.WideShapes Go.ChangeAt Go.RowKit
set_option maxRecDepth 100000 in
theorem contract (H : Type) (enc : TypeId × Value → H) (W : World) (base : Nat) (args : Array Value) (ds gs : List (DataW H)) (before : List MemPlace)
    (hval : ∀ (j : Nat) t v, Try.f8.params[j]? = some t → args[j]? = some v → Value.okWide Try.prog W .any base t v)
    (hW : DataW.Whole enc Try.prog Try.f8.params.toList Rows.quadSumsSpec.vars false W args.toList ds gs before) (hsz : (DataW.weightsEach Try.prog (Try.f8.params.toList ++ (OpenSpec.ofChange Rows.quadSumsSpec).bare.plain.varTypes Try.prog) (ds ++ gs)).all (· ≤ reachBytes) = true) (hk : Rows.uptoSmall H (ds ++ gs) = true) :
    Calls Try.prog 8 args W fun e W' => ∃ v, e = .returned v ∧ Rows.quadSumsSpec.post enc Try.prog Try.f8 false true false false W args v W' := by
  have hW' := hW
  obtain ⟨p, q, hA0, hV, rfl, hfz, hnd⟩ := hW
  have hA : DataW.TrodAll enc Try.prog W 0 (fun _ => true) true Try.f8.params.toList args.toList ds p := hA0
  rw [Try.params8] at hA hval
  obtain ⟨v0, vs0, d0, ds0, p0, q0, hargs, rfl, rfl, h0, r0⟩ := trodAll_cons hA
  obtain ⟨v1, vs1, d1, ds1, p1, q1, rfl, rfl, rfl, h1, r1⟩ := trodAll_cons r0
  obtain ⟨rfl, rfl, rfl⟩ := trodAll_nil r1
  obtain rfl : args = #[v0, v1] := by cases args; simp_all
  obtain ⟨rfl, rfl⟩ := trodVars_none hV
  obtain ⟨a0, len0, cap0, rfl⟩ := okWide_slice Try.underlying42 (hval 0 42 v0 rfl rfl)
  have h0k := h0
  obtain ⟨fuel0, hf0⟩ := h0
  obtain ⟨l0, hl0, hcp0, hL0, hfit0, hdat0⟩ := open_il (a := a0) (len := len0) (cap := cap0) hf0 (by simp [Value.cells])
  obtain ⟨a1, len1, cap1, rfl⟩ := okWide_slice Try.underlying42 (hval 1 42 v1 rfl rfl)
  have h1k := h1
  obtain ⟨fuel1, hf1⟩ := h1
  obtain ⟨l1, hl1, hcp1, hL1, hfit1, hdat1⟩ := open_il (a := a1) (len := len1) (cap := cap1) hf1 (by simp [Value.cells])
  clear hA0
  simp only [List.append_nil] at hW' hk
  have ho0 : l0.length * 8 ≤ 140737488351232 := by
    rcases hdat0 with ⟨_, h0⟩ | ⟨el, sp, hd, he⟩
    · omega
    · have h := sized_slice hsz (j := 0) (t := 42) (by rw [Try.params8]; rfl) (congrArg some hd) Try.underlying42
      rw [bytes3, he, List.length_map] at h
      have hr : reachBytes = 140737488351232 := by decide
      omega
  have ho1 : l1.length * 8 ≤ 140737488351232 := by
    rcases hdat1 with ⟨_, h0⟩ | ⟨el, sp, hd, he⟩
    · omega
    · have h := sized_slice hsz (j := 1) (t := 42) (by rw [Try.params8]; rfl) (congrArg some hd) Try.underlying42
      rw [bytes3, he, List.length_map] at h
      have hr : reachBytes = 140737488351232 := by decide
      omega
  have hkb : Rows.uptoBulkAll (H := H) [d0, d1] ≤ 1048576 := of_decide_eq_true hk
  simp only [Rows.uptoBulkAll] at hkb
  have hN0 : l0.length ≤ 1048576 := by
    rcases hdat0 with ⟨e1, e2⟩ | ⟨el, sp, e1, e2⟩
    · omega
    · have := bulk_list (d := d0) e1 e2
      omega
  have hN1 : l1.length ≤ 1048576 := by
    rcases hdat1 with ⟨e1, e2⟩ | ⟨el, sp, e1, e2⟩
    · omega
    · have := bulk_list (d := d1) e1 e2
      omega
  have hlt : ∀ x ∈ (p0 ++ p1), x.block < W.heap.size := fun x hx => by simpa using hW'.lt x (by simpa using hx)
  have har : ∀ W', Below W.heap.size W W' → DataW.TrodAll enc Try.prog W' 0 (fun b => decide (b < W.heap.size)) true [42, 42] [.slice a0 len0 cap0, .slice a1 len1 cap1] [d0, d1] (p0 ++ p1) := fun W' hg => by
    have h : DataW.TrodAll enc Try.prog W' 0 (fun b => decide (b < W.heap.size)) true [42, 42] [.slice a0 len0 cap0, .slice a1 len1 cap1] [d0, d1] _ := trodAll_cons_mk (Below.trod laidOut (by kernel_rfl) (of_decide_eq_true (by kernel_rfl)) h0k hg (fun x hx => hlt x (by simp [hx]))) (trodAll_cons_mk (Below.trod laidOut (by kernel_rfl) (of_decide_eq_true (by kernel_rfl)) h1k hg (fun x hx => hlt x (by simp [hx]))) trodAll_mk0)
    simpa using h
  refine (sums_law (.slice a0 len0 cap0) l0 (.slice a1 len1 cap1) l1 W hL0 hN0 hL1 hN1).mono fun e W' ⟨he, hg⟩ => ?_
  subst he
  exact ⟨_, rfl, _, _, _, [], p0 ++ p1, [], hW', trodAll_cons_mk (shut_bool Try.underlying4 _) trodAll_mk0, har W' hg, rfl, hg.frame _, fun h => by cases h⟩
theorem reads (os : Os) {H : Type} (enc : TypeId × Value → H) : ∃ places, DataW.whole enc Try.prog ((World.holding Try.prog os ⟨#[], #[], []⟩).forCall (fun _ _ => 0) ⟨#[], #[.slice none 0 0, .slice none 0 0], []⟩).memory Try.f8.params.toList Rows.quadSumsSpec.vars false #[Value.slice none 0 0, Value.slice none 0 0].toList 8 = some ([.nil, .nil], [], places) :=
  ⟨[], by kernel_rfl⟩
set_option maxRecDepth 100000 in
theorem lifted (os : Os) (started : os.Started) (H : Type) (enc : TypeId × Value → H) (F : Stop.Interp) :
    ReturnsInHanded {} Try.checked os 8 .any ((Rows.OpenSpec.upto Rows.quadSumsSpec).preRow enc Try.prog Try.f8 Rows.quadSumsUptoRow.domain false Rows.quadSumsUptoRow.laid) (((Rows.OpenSpec.upto Rows.quadSumsSpec).at F).post enc Try.prog Try.f8 false true false false) := by
  obtain ⟨places, hx⟩ := reads os enc
  refine returnsInHanded_of_row (C := Try.checked) (s := Rows.OpenSpec.upto Rows.quadSumsSpec) own started (by kernel_rfl) Try.func8
    (witness_row_at (enc := enc) (C := Try.checked) false (World.holding Try.prog os ⟨#[], #[], []⟩) #[.slice none 0 0, .slice none 0 0] rfl (by kernel_rfl) (by kernel_rfl) (by kernel_rfl)
      (OpenSpec.preRow_of_cond 8 hx (by kernel_rfl) (fun k hk => by cases hk; kernel_rfl) (by kernel_rfl) (laidMet_nil _ _))) ?_
  intro W base args ds gs before hval hW _ hcond hsz _ _ _
  exact contract H enc W base args ds gs before hval hW hsz (hcond _ rfl)
end Go.Proofs.Ytaffoannpnifmaa.quadSums
namespace Go.Proofs.Ytaffoannpnifmaa
theorem quadSums_holds : Rows.QuadSumsUptoSaid :=
  OpenClaim.holds_of_cond 8 Try.f8 rfl rfl rfl rfl rfl rfl rfl ⟨rfl, rfl, rfl, rfl, rfl⟩ rfl rfl rfl rfl rfl (by kernel_rfl) Try.func8 (by kernel_rfl)
    (of_decide_eq_true (by kernel_rfl)) (by unfold Func.isWrapper; first | (rw [if_pos (by decide +kernel)]; kernel_rfl) | (rw [if_neg (by decide +kernel)]; exact ⟨rfl, rfl⟩))
    (fun os started H enc _ F => by rw [OpenClaim.pre_eq_preRow]; exact quadSums.lifted os started H enc F)
end Go.Proofs.Ytaffoannpnifmaa
#print axioms Go.Proofs.Ytaffoannpnifmaa.quadSums_holds
