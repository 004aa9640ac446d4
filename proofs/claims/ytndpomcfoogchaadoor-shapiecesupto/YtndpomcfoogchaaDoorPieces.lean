/- PROVED HERE: the law ShaPieces returns true and leaves its arguments as they were: a hash into which bytes are written piece by piece has, behind each piece, the digest of all of them, and a fork goes its own way (of more than 60 pieces the first 60); for all texts and numbers of bulk at most 1048576 together (the second form), the table of constants as the program's text lays it. -/
import Derived.Test.YtndpomcfoogchaaDoorFrame
import Derived.Test.YtndpomcfoogchaaDoorPiecesW
import Derived.SliceStrings
namespace Go.Proofs.YtndpomcfoogchaaDoor.shaPieces
open Go.ChangeShapes Go.WideShapes Go.ChangeAt Go.RowKit
theorem laidOut : laidOutB Tryd.prog = true := by kernel_rfl
theorem cells9 : Tryd.prog.cellsOf 9 = 1 := by kernel_rfl
theorem bulk_append {H : Type} (l r : List (DataW H)) : Rows.uptoBulkAll (l ++ r) = Rows.uptoBulkAll l + Rows.uptoBulkAll r := by
  induction l with
  | nil => simp [Rows.uptoBulkAll]
  | cons x l ih => simp only [List.cons_append, Rows.uptoBulkAll, ih]; omega
theorem cat_bulk {H : Type} (ss : List ByteArray) : ∀ k, k ≤ ss.length → (cat (fun i => ss.getD i ByteArray.empty) k).length + k = Rows.uptoBulkAll (strs (H := H) (ss.take k))
  | 0, _ => by simp [cat, strs, Rows.uptoBulkAll]
  | k + 1, h => by
    have ih := cat_bulk (H := H) ss k (by omega)
    have e : ss.getD k ByteArray.empty = ss[k] := by rw [List.getD_eq_getElem?_getD, List.getElem?_eq_getElem (by omega)]; rfl
    rw [List.take_succ_eq_append_getElem (by omega), strs, List.map_append, bulk_append, cat, List.length_append, e]
    simp only [List.map_cons, List.map_nil, Rows.uptoBulkAll, Rows.uptoBulk]
    have : Rows.uptoBulkAll (List.map (fun s => DataW.lit (H := H) (.string s.data.toList)) (ss.take k)) = Rows.uptoBulkAll (strs (H := H) (ss.take k)) := rfl
    omega
theorem contract (H : Type) (enc : TypeId × Value → H) (W : World) (base : Nat) (args : Array Value) (ds gs : List (DataW H)) (before : List MemPlace)
    (hval : ∀ (j : Nat) t v, Tryd.f4.params[j]? = some t → args[j]? = some v → Value.okWide Tryd.prog W .any base t v)
    (hW : DataW.Whole enc Tryd.prog Tryd.f4.params.toList Rows.shaPiecesSpec.vars false W args.toList ds gs before) (hk : Rows.uptoSmall H (ds ++ gs) = true) (hL : laidMetH Tryd.prog Rows.shaPiecesUptoRow.laid W) :
    Calls Tryd.prog 4 args W fun e W' => ∃ v, e = .returned v ∧ Rows.shaPiecesSpec.post enc Tryd.prog Tryd.f4 false true false false W args v W' := by
  have hW' := hW
  obtain ⟨p, q, hA0, hV, rfl, hfz, hnd⟩ := hW
  have hA : DataW.TrodAll enc Tryd.prog W 0 (fun _ => true) true Tryd.f4.params.toList args.toList ds p := hA0
  rw [Tryd.params4] at hA hval
  obtain ⟨v0, vs0, d0, ds0, p0, q0, hargs, rfl, rfl, h0, r0⟩ := trodAll_cons hA
  obtain ⟨v1, vs1, d1, ds1, p1, q1, rfl, rfl, rfl, h1, r1⟩ := trodAll_cons r0
  obtain ⟨rfl, rfl, rfl⟩ := trodAll_nil r1
  obtain rfl : args = #[v0, v1] := by cases args; simp_all
  obtain ⟨rfl, rfl⟩ := trodVars_none hV
  obtain ⟨n, rfl, rfl, rfl, hn⟩ := open_int Tryd.underlying3 (hval 1 3 v1 rfl rfl) h1
  obtain ⟨a0, len, cap, rfl⟩ := okWide_slice Tryd.underlying25 (hval 0 25 v0 rfl rfl)
  have h0k := h0
  obtain ⟨fuel, hf⟩ := h0
  clear hA0
  simp only [List.append_nil] at hW' hk
  have hlt : ∀ x ∈ p0, x.block < W.heap.size := fun x hx => by simpa using hW'.lt x (by simpa using hx)
  have hT : Tab W := tab_of_laid hL
  have har : ∀ W', Below W.heap.size W W' → DataW.TrodAll enc Tryd.prog W' 0 (fun b => decide (b < W.heap.size)) true [25, 3] [.slice a0 len cap, .int .i64 n] [d0, .lit (.int .i64 n)] p0 := fun W' hg => by
    have h := trodAll_cons_mk (Below.trod laidOut (by kernel_rfl) (of_decide_eq_true (by kernel_rfl)) h0k hg hlt) (trodAll_cons_mk (shut_int (w := W') Tryd.underlying3 hn) trodAll_mk0)
    simpa using h
  have fin : ∀ e W', (e = Ending.returned (.bool true) ∧ Below W.heap.size W W') → ∃ v, e = Ending.returned v ∧ Rows.shaPiecesSpec.post enc Tryd.prog Tryd.f4 false true false false W #[.slice a0 len cap, .int .i64 n] v W' := by
    intro e W' ⟨he, hg⟩
    subst he
    exact ⟨_, rfl, _, _, _, [], p0, [], hW', trodAll_cons_mk (shut_bool Tryd.underlying4 _) trodAll_mk0, har W' hg, rfl, hg.frame _, fun h => by cases h⟩
  have hkb : Rows.uptoBulkAll [d0, DataW.lit (H := H) (.int .i64 n)] ≤ 1048576 := of_decide_eq_true hk
  rcases open_strings Tryd.underlying25 Tryd.underlying9 cells9 hf with ⟨hcs, hx⟩ | ⟨a, len', cap', ss, hcs, _, hl, hm, hz, hx, hcell, hws⟩
  · simp [Value.cells] at hcs
    obtain ⟨rfl, rfl, rfl⟩ := hcs
    exact (pieces_any none 0 0 0 0 (fun _ => ByteArray.empty) n W hT (some_of_tab hT) (fun h => by omega) (fun h => by omega) (fun i h => by omega) (fun k hk => by
      obtain rfl : k = 0 := by omega
      simp [cat]) (by omega)).mono fin
  · simp [Value.cells] at hcs
    obtain ⟨rfl, rfl, rfl⟩ := hcs
    simp only [Prod.mk.injEq] at hx
    obtain ⟨hd, hp⟩ := hx
    simp only [if_true] at hz
    rw [hd] at hkb
    simp only [Rows.uptoBulkAll, Rows.uptoBulk] at hkb
    have hb := cat_bulk (H := H) ss len (by omega)
    have htot : ∀ k, k ≤ len → (cat (fun i => ss.getD i ByteArray.empty) k).length ≤ 1048576 := fun k hk => by
      have h1 := cat_bulk (H := H) ss k (by omega)
      have h2 : Rows.uptoBulkAll (strs (H := H) (ss.take len)) = Rows.uptoBulkAll (strs (H := H) (ss.take k)) + Rows.uptoBulkAll (strs (H := H) ((ss.take len).drop k)) := by
        rw [← bulk_append, strs, strs, strs, ← List.map_append]
        congr 2
        have : (ss.take len).take k = ss.take k := by rw [List.take_take]; congr 1; omega
        rw [← this, List.take_append_drop]
      omega
    by_cases hl0 : len = 0
    · subst hl0
      exact (pieces_any (some a) 0 0 0 cap (fun _ => ByteArray.empty) n W hT (some_of_tab hT) (fun h => by omega) (fun h => by omega) (fun i h => by omega) (fun k hk => by
        obtain rfl : k = 0 := by omega
        simp [cat]) (by omega)).mono fin
    · obtain ⟨b, off, spot⟩ := a
      have hspot : spot = none := by simpa [Addr.add] using World.cell?_spot (hcell 0 (by omega))
      subst hspot
      have hbW : b < W.heap.size := World.block_lt_of_cell? W _ (by have := hcell 0 (by omega); rwa [Addr.add_mid] at this)
      exact (pieces_any (some ⟨b, off, none⟩) b off len cap (fun i => ss.getD i ByteArray.empty) n W hT (some_of_tab hT) (fun _ => hbW) (fun _ => rfl) (fun j hj => by
        have := hcell j (by omega); rwa [Addr.add_mid] at this) htot (by omega)).mono fin
theorem laid_met (os : Os) : laidMet Tryd.prog Rows.shaPiecesUptoRow.laid ((layTab (World.holding Tryd.prog os ⟨#[], #[], []⟩)).forCall (fun _ _ => 0) ⟨#[], #[.slice none 0 0, .int .i64 0], []⟩).memory :=
  laidMet_of_run' 8 (by kernel_rfl) (by kernel_rfl)
theorem reads (os : Os) {H : Type} (enc : TypeId × Value → H) : ∃ places, DataW.whole enc Tryd.prog ((layTab (World.holding Tryd.prog os ⟨#[], #[], []⟩)).forCall (fun _ _ => 0) ⟨#[], #[.slice none 0 0, .int .i64 0], []⟩).memory Tryd.f4.params.toList Rows.shaPiecesSpec.vars false #[Value.slice none 0 0, Value.int .i64 0].toList 8 = some ([.nil, .lit (.int .i64 0)], [], places) :=
  ⟨[], by kernel_rfl⟩
set_option maxRecDepth 100000 in
theorem lifted (os : Os) (started : os.Started) (H : Type) (enc : TypeId × Value → H) (F : Stop.Interp) :
    ReturnsInHanded {} Tryd.checked os 4 .any ((Rows.OpenSpec.upto Rows.shaPiecesSpec).preRow enc Tryd.prog Tryd.f4 Rows.shaPiecesUptoRow.domain false Rows.shaPiecesUptoRow.laid) (((Rows.OpenSpec.upto Rows.shaPiecesSpec).at F).post enc Tryd.prog Tryd.f4 false true false false) := by
  obtain ⟨places, hx⟩ := reads os enc
  refine returnsInHanded_of_row (C := Tryd.checked) (s := Rows.OpenSpec.upto Rows.shaPiecesSpec) own started (by kernel_rfl) Tryd.func4
    (witness_row_at (enc := enc) (C := Tryd.checked) false (layTab (World.holding Tryd.prog os ⟨#[], #[], []⟩)) #[.slice none 0 0, .int .i64 0] rfl (by kernel_rfl) (by kernel_rfl) (by kernel_rfl)
      (OpenSpec.preRow_of_cond 8 hx (by kernel_rfl) (fun k hk => by cases hk; kernel_rfl) (by kernel_rfl) (laid_met os))) ?_
  intro W base args ds gs before hval hW _ hcond _ hL _ _
  exact contract H enc W base args ds gs before hval hW (hcond _ rfl) hL
theorem said : Rows.ShaPiecesUptoSaid :=
  OpenClaim.holds_of_cond 4 Tryd.f4 rfl rfl rfl rfl rfl rfl rfl ⟨rfl, rfl, rfl, rfl, rfl⟩ rfl rfl rfl rfl rfl (by kernel_rfl) Tryd.func4 (by kernel_rfl)
    (of_decide_eq_true (by kernel_rfl)) (by unfold Func.isWrapper; first | (rw [if_pos (by decide +kernel)]; kernel_rfl) | (rw [if_neg (by decide +kernel)]; exact ⟨rfl, rfl⟩))
    (fun os started H enc _ F => by rw [OpenClaim.pre_eq_preRow]; exact lifted os started H enc F)
theorem plain (f : FuncId) (fn : Func) (hf : Tryd.pinned.checked.prog.funcNamed "capstan/capstanlaw01.ShaPieces" = some f) (hfn : Tryd.pinned.checked.prog.funcs[f]? = some fn) :
    false = Tryd.pinned.checked.prog.looks [] ∧ ∀ (j : Nat) t, fn.params[j]? = some t → Tryd.pinned.checked.prog.wantsStandIn t = false := by
  obtain rfl : f = 4 := Option.some.inj ((show Tryd.prog.funcNamed "capstan/capstanlaw01.ShaPieces" = some 4 by kernel_rfl).symm.trans hf) |>.symm
  obtain rfl : fn = Tryd.f4 := (Option.some.inj (Tryd.func4.symm.trans hfn)).symm
  refine ⟨by kernel_rfl, fun j t ht => ?_⟩
  rw [Tryd.params4] at ht
  have ht' : t = 25 ∨ t = 3 := by simpa using Array.mem_of_getElem? ht
  rcases ht' with rfl | rfl
  · exact (show Tryd.prog.wantsStandIn 25 = false by kernel_rfl)
  · exact (show Tryd.prog.wantsStandIn 3 = false by kernel_rfl)
end Go.Proofs.YtndpomcfoogchaaDoor.shaPieces
namespace Go.Proofs.YtndpomcfoogchaaDoor
/-- THE CARD OF THE SECOND FORM -/
theorem shaPieces_card : Rows.ShaPiecesUptoCardSaid :=
  Claim7.holds_tied_plain_at .later [] _ _ _ _ shaPieces.said (fun _ h => by cases h) (by kernel_rfl) (fun _ h => by cases h) shaPiecesUpto_row_tie rfl ⟨rfl, rfl⟩ (by kernel_rfl) rfl shaPieces.plain (by kernel_rfl)
end Go.Proofs.YtndpomcfoogchaaDoor
#print axioms Go.Proofs.YtndpomcfoogchaaDoor.shaPieces_card
