/- The contract of lex.sign. -/
import Derived.Test.YtfcnbiikjopajaaDoorSignT
namespace Go.Proofs.YtfcnbiikjopajaaDoor
open Go.RowKit
theorem size94' : (Tryd.prog.info? 94).map (·.size) = some 22 := by kernel_rfl
theorem size94 : (Tryd.prog.info? 94).map (·.size) = some signTab.length := size94'
set_option maxRecDepth 100000 in
set_option maxHeartbeats 1600000 in
theorem sign_any (l : Bs) (w : World) (hg : Glo w) : Calls Tryd.prog 42 #[.string ⟨l.toArray⟩] w fun e w' => (∃ v, e = .returned v ∧ TokOut (signL l) l.length v) ∧ Below w.heap.size w w' := by
  have ht : ∀ o, TabAt (w.alloc o) 2 signTab := hg.sign.alloc (by have := hg.lt; omega)
  have ix : Hid (∀ (k : Nat) (h : k < 22) W, (Instr.index 94 (.agg signTab.toArray) (.int .i64 (k : Int))).run Tryd.prog W = .ok (.string ⟨(signAll[k]'h).toArray⟩) W) := fun k h W => index_cell Tryd.underlying94 (fun _ => Tryd.isAgg9 _) (fun _ => Tryd.sizeOf9 _) _ k h _ (by rw [List.getElem?_toArray]; exact sign_tab k h) W
  have hp := fun (p : Bs) W => Tryd.strings_HasPrefix ⟨l.toArray⟩ ⟨p.toArray⟩ W
  have E := hide (sign_find l)
  obtain ⟨T, hT⟩ : ∃ T, Value.agg signTab.toArray = T := ⟨_, rfl⟩
  rw [hT] at ix
  clear hg
  go_enter Tryd.func42, Tryd.ntmps42
  go_wp2_with ((with_reducible refine at_load (ty := 94) ?_); go_must (refine load_tab (b := 2) (t := signTab) (T := T) rfl (ht _) hT Tryd.underlying94 rfl size94 ?_))
  clear ht hT
  go_loop [8] (fun i => ∃ k : Nat, k ≤ 22 ∧ i = .int .i64 (k : Int) ∧ (signAll.drop k).find? (fun g => g.isPrefixOf l) = signAll.find? fun g => g.isPrefixOf l) (fun i => 22 - (intOf i).toNat)
  case atStart => exact ⟨0, by omega, rfl, rfl⟩
  case round =>
    obtain ⟨k, hk, rfl, hf⟩ := hrel
    by_cases hlt : k < 22
    · have x0 := ix.out k hlt
      have i1 : (k : Int) < 22 := by omega
      have h1 := hp (signAll[k]'hlt)
      rw [List.drop_eq_getElem_cons (show k < signAll.length from hlt), List.find?_cons] at hf
      have hlen := list_size (signAll[k]'hlt)
      have h1' : ∀ W, Calls Tryd.prog 35 #[.string ⟨l.toArray⟩, .string ⟨(signAll[k]'hlt).toArray⟩] W fun e w' => e = .returned (.bool ((signAll[k]'hlt).isPrefixOf l)) ∧ w' = W := h1
      clear h1 ix hp
      generalize (signAll[k]'hlt) = g at *
      have hfe := hf
      clear hf
      obtain ⟨u, HU⟩ : ∃ u : ByteArray, Hid ((⟨g.toArray⟩ : ByteArray) = u) := ⟨_, rfl⟩
      rw [HU.out] at x0 hlen h1'
      replace hlen := hide hlen
      cases hq : g.isPrefixOf l with
      | true =>
        rw [hq] at h1' hfe
        replace hfe := hide hfe
        have HS : Hid ((u.size : Int) = ((l.length - (l.drop g.length).length : Nat) : Int)) := by
          show _ = _
          have h2 := (pre_iff g l).1 hq
          have h3 := congrArg List.length h2
          rw [List.length_take] at h3
          rw [hlen.out, List.length_drop]
          omega
        clear hq
        go_wp2_with fail
        refine (h1' _).mono ?_
        rintro e w1 ⟨rfl, rfl⟩
        go_wp2
        refine bodyPost_ret (v := .tuple #[tkA (signT g) 0, .int .i64 (u.size : Int), .bool true]) ?_ rfl ⟨⟨_, rfl, ?_⟩, ?_⟩
        · simp [results, Tryd.results42, go_sem, tkA, signT, HU.out]
        · rw [E.out, ← hfe.out]
          show _ = _
          rw [HS.out]
        · exact (Below.refl _ _).alloc (Nat.le_refl _) _
      | false =>
        rw [hq] at h1' hfe
        replace hfe := hide hfe
        clear hq
        go_wp2_with fail
        refine (h1' _).mono ?_
        rintro e w1 ⟨rfl, hw1⟩
        subst hw1
        go_wp2
        go_round
        case rel => exact ⟨k + 1, by omega, by go_num, hfe.out⟩
        case measure => simp only [intOf]; omega
    · obtain rfl : k = 22 := by omega
      have HN := hide (show signL l = none by
        rw [E.out, ← hf]; rfl)
      clear hf
      go_wp2
      refine bodyPost_ret (v := .tuple #[tkA ⟨0, [], 0, 0⟩ 0, .int .i64 0, .bool false]) ?_ rfl ⟨⟨_, rfl, ?_⟩, ?_⟩
      · simp [results, Tryd.results42, go_sem, tkA]
      · rw [HN.out]
        exact ⟨_, _, rfl⟩
      · exact (Below.refl _ _).alloc (Nat.le_refl _) _
end Go.Proofs.YtfcnbiikjopajaaDoor
