/- PROVED HERE: ExprNames of capstanlaw06, where the arguments hold together at most 1048576 values and letters: the names of two expressions put together by an operation are those of both, each once, rising; the program's tables lie as its text lays them. -/
import Derived.Test.YtkicbmjjbnblfaaDoorFrmP
import Derived.Test.YtkicbmjjbnblfaaDoorNxL
namespace Go.Proofs.YtkicbmjjbnblfaaDoor.exprNames
open Go.ChangeShapes Go.WideShapes Go.ChangeAt Go.RowKit
open Go.ChangeMaps (open_string shut_string)
set_option maxRecDepth 100000 in
theorem contract (H : Type) (enc : TypeId × Value → H) (W : World) (base : Nat) (args : Array Value) (ds gs : List (DataW H)) (before : List MemPlace)
    (hval : ∀ (j : Nat) t v, Tryd.f7.params[j]? = some t → args[j]? = some v → Value.okWide Tryd.prog W .any base t v)
    (hW : DataW.Whole enc Tryd.prog Tryd.f7.params.toList Rows.exprNamesSpec.vars false W args.toList ds gs before) (hsz : (DataW.weightsEach Tryd.prog (Tryd.f7.params.toList ++ (OpenSpec.ofChange Rows.exprNamesSpec).bare.plain.varTypes Tryd.prog) (ds ++ gs)).all (· ≤ reachBytes) = true) (hk : Rows.uptoSmall H (ds ++ gs) = true) (hL : laidMetH Tryd.prog Rows.exprNamesUptoRow.laid W) (hsh : W.ShapedOpen Tryd.prog) :
    Calls Tryd.prog 7 args W fun e W' => ∃ v, e = .returned v ∧ Rows.exprNamesSpec.post enc Tryd.prog Tryd.f7 false true false false W args v W' := by
  have hW' := hW
  obtain ⟨p, q, hA0, hV, rfl, hfz, hnd⟩ := hW
  have hA : DataW.TrodAll enc Tryd.prog W 0 (fun _ => true) true Tryd.f7.params.toList args.toList ds p := hA0
  rw [Tryd.params7] at hA hval
  obtain ⟨v0, vs0, d0, ds0, p0, q0, hargs, rfl, rfl, h0, r0⟩ := trodAll_cons hA
  obtain ⟨v1, vs1, d1, ds1, p1, q1, rfl, rfl, rfl, h1, r1⟩ := trodAll_cons r0
  obtain ⟨v2, vs2, d2, ds2, p2, q2, rfl, rfl, rfl, h2, r2⟩ := trodAll_cons r1
  obtain ⟨rfl, rfl, rfl⟩ := trodAll_nil r2
  obtain rfl : args = #[v0, v1, v2] := by cases args; simp_all
  obtain ⟨rfl, rfl⟩ := trodVars_none hV
  obtain ⟨a0, len0, cap0, rfl⟩ := okWide_slice Tryd.underlying24 (hval 0 24 v0 rfl rfl)
  have h0k := h0
  obtain ⟨fuel0, hf0⟩ := h0
  obtain ⟨l0, hl0, hcp0, hL0, hfit0, hdat0⟩ := open_parts (a := a0) (len := len0) (cap := cap0) hf0 (by simp [Value.cells])
  obtain ⟨a1, len1, cap1, rfl⟩ := okWide_slice Tryd.underlying24 (hval 1 24 v1 rfl rfl)
  have h1k := h1
  obtain ⟨fuel1, hf1⟩ := h1
  obtain ⟨l1, hl1, hcp1, hL1, hfit1, hdat1⟩ := open_parts (a := a1) (len := len1) (cap := cap1) hf1 (by simp [Value.cells])
  obtain ⟨s2, rfl, rfl, rfl, hmax2⟩ := open_int Tryd.underlying3 (hval 2 3 v2 rfl rfl) h2
  clear hA0
  simp only [List.append_nil] at hW' hk
  have ho0 : OkP l0 := by
    rcases hdat0 with ⟨_, h0⟩ | ⟨el, sp, hd, he⟩
    · obtain rfl : l0 = [] := List.eq_nil_of_length_eq_zero (hl0.trans h0)
      exact ⟨by simp, fun x hx => by cases hx⟩
    · exact okP_of hsz (j := 0) (by rw [Tryd.params7]; rfl) (congrArg some hd) he hfit0
  have ho1 : OkP l1 := by
    rcases hdat1 with ⟨_, h0⟩ | ⟨el, sp, hd, he⟩
    · obtain rfl : l1 = [] := List.eq_nil_of_length_eq_zero (hl1.trans h0)
      exact ⟨by simp, fun x hx => by cases hx⟩
    · exact okP_of hsz (j := 1) (by rw [Tryd.params7]; rfl) (congrArg some hd) he hfit1
  have hT : Glo W := glo_of_laid hL hsh
  have hlt : ∀ x ∈ (p0 ++ p1), x.block < W.heap.size := fun x hx => by simpa using hW'.lt x (by simpa using hx)
  have har : ∀ W', Below W.heap.size W W' → DataW.TrodAll enc Tryd.prog W' 0 (fun b => decide (b < W.heap.size)) true [24, 24, 3] [.slice a0 len0 cap0, .slice a1 len1 cap1, .int .i64 s2] [d0, d1, .lit (.int .i64 s2)] (p0 ++ p1) := fun W' hg => by
    have h : DataW.TrodAll enc Tryd.prog W' 0 (fun b => decide (b < W.heap.size)) true [24, 24, 3] [.slice a0 len0 cap0, .slice a1 len1 cap1, .int .i64 s2] [d0, d1, .lit (.int .i64 s2)] _ := trodAll_cons_mk (Below.trod laidOut (by kernel_rfl) (of_decide_eq_true (by kernel_rfl)) h0k hg (fun x hx => hlt x (by simp [hx]))) (trodAll_cons_mk (Below.trod laidOut (by kernel_rfl) (of_decide_eq_true (by kernel_rfl)) h1k hg (fun x hx => hlt x (by simp [hx]))) (trodAll_cons_mk (shut_int Tryd.underlying3 hmax2) trodAll_mk0))
    simpa using h
  have hkb : Rows.uptoBulkAll (H := H) [d0, d1, .lit (.int .i64 s2)] ≤ 1048576 := of_decide_eq_true hk
  refine (nx_said (.slice a0 len0 cap0) l0 (.slice a1 len1 cap1) l1 s2 hL0 (fun a n cap h => by injection h with _ h1 h2; omega) ho0 hL1 (fun a n cap h => by injection h with _ h1 h2; omega) ho1 hmax2 W hT ?_).mono fun e W' ⟨he, hg⟩ => ?_
  · exact bulk_names hkb hdat0 hl0 hdat1 hl1
  subst he
  exact ⟨_, rfl, _, _, _, [], p0 ++ p1, [], hW', trodAll_cons_mk (shut_bool Tryd.underlying4 _) trodAll_mk0, har W' hg, rfl, hg.frame _, fun h => by cases h⟩
theorem laid_met (os : Os) : laidMet Tryd.prog Rows.exprNamesUptoRow.laid ((layGlo (World.holding Tryd.prog os ⟨#[], #[], []⟩)).forCall (fun _ _ => 0) ⟨#[], #[.slice none 0 0, .slice none 0 0, .int .i64 0], []⟩).memory :=
  laidMet_of_run' 8 (by kernel_rfl) (by kernel_rfl)
theorem reads (os : Os) {H : Type} (enc : TypeId × Value → H) : ∃ places, DataW.whole enc Tryd.prog ((layGlo (World.holding Tryd.prog os ⟨#[], #[], []⟩)).forCall (fun _ _ => 0) ⟨#[], #[.slice none 0 0, .slice none 0 0, .int .i64 0], []⟩).memory Tryd.f7.params.toList Rows.exprNamesSpec.vars false #[Value.slice none 0 0, Value.slice none 0 0, Value.int .i64 0].toList 8 = some ([.nil, .nil, .lit (.int .i64 0)], [], places) :=
  ⟨[], by kernel_rfl⟩
set_option maxRecDepth 100000 in
theorem lifted (os : Os) (started : os.Started) (H : Type) (enc : TypeId × Value → H) (F : Stop.Interp) :
    ReturnsInHanded {} Tryd.checked os 7 .any ((Rows.OpenSpec.upto Rows.exprNamesSpec).preRow enc Tryd.prog Tryd.f7 Rows.exprNamesUptoRow.domain false Rows.exprNamesUptoRow.laid) (((Rows.OpenSpec.upto Rows.exprNamesSpec).at F).post enc Tryd.prog Tryd.f7 false true false false) := by
  obtain ⟨places, hx⟩ := reads os enc
  refine returnsInHanded_of_row (C := Tryd.checked) (s := Rows.OpenSpec.upto Rows.exprNamesSpec) own started (by kernel_rfl) Tryd.func7
    (witness_row_at (enc := enc) (C := Tryd.checked) false (layGlo (World.holding Tryd.prog os ⟨#[], #[], []⟩)) #[.slice none 0 0, .slice none 0 0, .int .i64 0] rfl (by kernel_rfl) (by kernel_rfl) (by kernel_rfl)
      (OpenSpec.preRow_of_cond 8 hx (by kernel_rfl) (fun k hk => by cases hk; kernel_rfl) (by kernel_rfl) (laid_met os))) ?_
  intro W base args ds gs before hval hW _ hcond hsz hL hsh _
  exact contract H enc W base args ds gs before hval hW hsz (hcond _ rfl) hL hsh
theorem said : Rows.ExprNamesUptoSaid :=
  OpenClaim.holds_of_cond 7 Tryd.f7 rfl rfl rfl rfl rfl rfl rfl ⟨rfl, rfl, rfl, rfl, rfl⟩ rfl rfl rfl rfl rfl (by kernel_rfl) Tryd.func7 (by kernel_rfl)
    (of_decide_eq_true (by kernel_rfl)) (by unfold Func.isWrapper; first | (rw [if_pos (by decide +kernel)]; kernel_rfl) | (rw [if_neg (by decide +kernel)]; exact ⟨rfl, rfl⟩))
    (fun os started H enc _ F => by rw [OpenClaim.pre_eq_preRow]; exact lifted os started H enc F)
theorem plain (f : FuncId) (fn : Func) (hf : Tryd.pinned.checked.prog.funcNamed "capstan/capstanlaw06.ExprNames" = some f) (hfn : Tryd.pinned.checked.prog.funcs[f]? = some fn) :
    false = Tryd.pinned.checked.prog.looks [] ∧ ∀ (j : Nat) t, fn.params[j]? = some t → Tryd.pinned.checked.prog.wantsStandIn t = false := by
  obtain rfl : f = 7 := Option.some.inj ((show Tryd.prog.funcNamed "capstan/capstanlaw06.ExprNames" = some 7 by kernel_rfl).symm.trans hf) |>.symm
  obtain rfl : fn = Tryd.f7 := (Option.some.inj (Tryd.func7.symm.trans hfn)).symm
  refine ⟨by kernel_rfl, fun j t ht => ?_⟩
  rw [Tryd.params7] at ht
  have ht' : t = 24 ∨ t = 3 := by simpa using Array.mem_of_getElem? ht
  rcases ht' with rfl | rfl
  · exact (show Tryd.prog.wantsStandIn 24 = false by kernel_rfl)
  · exact (show Tryd.prog.wantsStandIn 3 = false by kernel_rfl)
end Go.Proofs.YtkicbmjjbnblfaaDoor.exprNames
namespace Go.Proofs.YtkicbmjjbnblfaaDoor
/-- THE CARD OF THE SECOND FORM -/
theorem exprNames_card : Rows.ExprNamesUptoCardSaid :=
  Claim7.holds_tied_plain_at .later [] _ _ _ _ exprNames.said (fun _ h => by cases h) (by kernel_rfl) (fun _ h => by cases h) exprNamesUpto_row_tie rfl ⟨rfl, rfl⟩ (by kernel_rfl) rfl exprNames.plain (by kernel_rfl)
end Go.Proofs.YtkicbmjjbnblfaaDoor
#print axioms Go.Proofs.YtkicbmjjbnblfaaDoor.exprNames_card
