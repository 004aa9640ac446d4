/- Signs, plain. | The contract of lex.sign. | The contract of lex.sign. -/
import Derived.Test.YtkicbmjjbnblfaaDoorGlo
import Derived.Test.YtkicbmjjbnblfaaDoorNumW
import Derived.Test.YtkicbmjjbnblfaaDoorShelf
namespace Go.Proofs.YtkicbmjjbnblfaaDoor
open Go.RowKit
def signAll : List Bs := [[58, 61], [60, 61], [62, 61], [60, 62], [42, 42], [46, 46], [40], [41], [91], [93], [44], [59], [58], [46], [43], [45], [42], [47], [61], [60], [62], [38]]
theorem pre_iff (g l : Bs) : g.isPrefixOf l = true ↔ g = l.take g.length := by
  rw [List.isPrefixOf_iff_prefix, List.prefix_iff_eq_take]
theorem find_len {n : Nat} (l : Bs) : ∀ L : List Bs, (∀ g ∈ L, g.length = n) → L.find? (fun g => g.isPrefixOf l) = if l.take n ∈ L then some (l.take n) else none
  | [], _ => by simp
  | g :: L, h => by
    have hg := h g List.mem_cons_self
    have ih := find_len l L fun x hx => h x (List.mem_cons_of_mem _ hx)
    rw [List.find?_cons]
    by_cases e : g = l.take n
    · have : g.isPrefixOf l = true := (pre_iff g l).2 (by rw [hg]; exact e)
      rw [this]
      simp only []
      rw [if_pos (by rw [← e]; exact List.mem_cons_self), e]
    · have : g.isPrefixOf l = false := by
        cases hq : g.isPrefixOf l with
        | false => rfl
        | true => exact absurd ((pre_iff g l).1 hq) (by rw [hg]; exact e)
      rw [this]
      simp only []
      rw [ih]
      by_cases hm : l.take n ∈ L
      · rw [if_pos hm, if_pos (List.mem_cons_of_mem _ hm)]
      · rw [if_neg hm, if_neg]
        intro hc
        rcases List.mem_cons.1 hc with hc | hc
        · exact e hc.symm
        · exact hm hc
theorem signs_split : signAll = signs2 ++ signs1.map (fun c => [c]) := by decide
theorem sign_find (l : Bs) : signL l = (signAll.find? fun g => g.isPrefixOf l).map fun g => (signT g, l.drop g.length) := by
  rw [signs_split, List.find?_append, find_len (n := 2) l signs2 (by decide), find_len (n := 1) l (signs1.map fun c => [c]) (by decide)]
  unfold signL
  by_cases h : l.take 2 ∈ signs2
  · rw [if_pos h, if_pos h]
    have : (l.take 2).length = 2 := (show ∀ g ∈ signs2, g.length = 2 by decide) _ h
    simp [this]
  · rw [if_neg h, if_neg h]
    match l with
    | [] => simp [signs1]
    | c :: r =>
      simp only [Option.none_or]
      by_cases hc : c ∈ signs1
      · rw [if_pos hc, if_pos (by simpa using hc)]
        simp
      · rw [if_neg hc, if_neg (by simpa using hc)]
        rfl
end Go.Proofs.YtkicbmjjbnblfaaDoor
namespace Go.Proofs.YtkicbmjjbnblfaaDoor
open Go.RowKit
theorem sign_tab (k : Nat) (h : k < 22) : signTab[k]? = some (.string ⟨(signAll[k]'h).toArray⟩) := by
  have : ∀ k : Fin 22, signTab[k.val]? = some (.string ⟨(signAll[k.val]'k.isLt).toArray⟩) := by
    intro k
    obtain ⟨k, h⟩ := k
    have : k = 0 ∨ k = 1 ∨ k = 2 ∨ k = 3 ∨ k = 4 ∨ k = 5 ∨ k = 6 ∨ k = 7 ∨ k = 8 ∨ k = 9 ∨ k = 10 ∨ k = 11 ∨ k = 12 ∨ k = 13 ∨ k = 14 ∨ k = 15 ∨ k = 16 ∨ k = 17 ∨ k = 18 ∨ k = 19 ∨ k = 20 ∨ k = 21 := by omega
    rcases this with rfl | rfl | rfl | rfl | rfl | rfl | rfl | rfl | rfl | rfl | rfl | rfl | rfl | rfl | rfl | rfl | rfl | rfl | rfl | rfl | rfl | rfl <;> rfl
  exact this ⟨k, h⟩
end Go.Proofs.YtkicbmjjbnblfaaDoor
namespace Go.Proofs.YtkicbmjjbnblfaaDoor
open Go.RowKit
theorem size143' : (Tryd.prog.info? 143).map (·.size) = some 22 := by kernel_rfl
theorem size143 : (Tryd.prog.info? 143).map (·.size) = some signTab.length := size143'
set_option maxRecDepth 100000 in
set_option maxHeartbeats 1600000 in
theorem sign_any (l : Bs) (w : World) (hg : Glo w) : Calls Tryd.prog 72 #[.string ⟨l.toArray⟩] w fun e w' => (∃ v, e = .returned v ∧ TokOut (signL l) l.length v) ∧ Below w.heap.size w w' := by
  have ht : ∀ o, TabAt (w.alloc o) 4 signTab := hg.sign.alloc (by have := hg.lt; omega)
  have ix : Hid (∀ (k : Nat) (h : k < 22) W, (Instr.index 143 (.agg signTab.toArray) (.int .i64 (k : Int))).run Tryd.prog W = .ok (.string ⟨(signAll[k]'h).toArray⟩) W) := fun k h W => index_cell Tryd.underlying143 (fun _ => Tryd.isAgg9 _) (fun _ => Tryd.sizeOf9 _) _ k h _ (by rw [List.getElem?_toArray]; exact sign_tab k h) W
  have hp := fun (p : Bs) W => Tryd.strings_HasPrefix ⟨l.toArray⟩ ⟨p.toArray⟩ W
  have E := hide (sign_find l)
  obtain ⟨T, hT⟩ : ∃ T, Value.agg signTab.toArray = T := ⟨_, rfl⟩
  rw [hT] at ix
  clear hg
  go_enter Tryd.func72, Tryd.ntmps72
  go_wp2_with ((with_reducible refine at_load (ty := 143) ?_); go_must (refine load_tab (b := 4) (t := signTab) (T := T) rfl (ht _) hT Tryd.underlying143 rfl size143 ?_))
  clear ht hT
  go_loop [8] (fun i => ∃ k : Nat, k ≤ 22 ∧ i = .int .i64 (k : Int) ∧ (signAll.drop k).find? (fun g => g.isPrefixOf l) = signAll.find? fun g => g.isPrefixOf l) (fun i => 22 - (intOf i).toNat)
  case atStart => exact ⟨0, by omega, rfl, rfl⟩
  case round =>
    obtain ⟨k, hk, rfl, hf⟩ := hrel
    by_cases hlt : k < 22
    · have x0 := ix.out k hlt
      have i1 : (k : Int) < 22 := by omega
      have h1 := hp (signAll[k]'hlt)
      rw [List.drop_eq_getElem_cons (show k < signAll.length from hlt), List.find?_cons] at hf
      have hlen := list_size (signAll[k]'hlt)
      have h1' : ∀ W, Calls Tryd.prog 65 #[.string ⟨l.toArray⟩, .string ⟨(signAll[k]'hlt).toArray⟩] W fun e w' => e = .returned (.bool ((signAll[k]'hlt).isPrefixOf l)) ∧ w' = W := h1
      clear h1 ix hp
      generalize (signAll[k]'hlt) = g at *
      have hfe := hf
      clear hf
      obtain ⟨u, HU⟩ : ∃ u : ByteArray, Hid ((⟨g.toArray⟩ : ByteArray) = u) := ⟨_, rfl⟩
      rw [HU.out] at x0 hlen h1'
      replace hlen := hide hlen
      cases hq : g.isPrefixOf l with
      | true =>
        rw [hq] at h1' hfe
        replace hfe := hide hfe
        have HS : Hid ((u.size : Int) = ((l.length - (l.drop g.length).length : Nat) : Int)) := by
          show _ = _
          have h2 := (pre_iff g l).1 hq
          have h3 := congrArg List.length h2
          rw [List.length_take] at h3
          rw [hlen.out, List.length_drop]
          omega
        clear hq
        go_wp2_with fail
        refine (h1' _).mono ?_
        rintro e w1 ⟨rfl, rfl⟩
        go_wp2
        refine bodyPost_ret (v := .tuple #[tkA (signT g) 0, .int .i64 (u.size : Int), .bool true]) ?_ rfl ⟨⟨_, rfl, ?_⟩, ?_⟩
        · simp [results, Tryd.results72, go_sem, tkA, signT, HU.out]
        · rw [E.out, ← hfe.out]
          show _ = _
          rw [HS.out]
        · exact (Below.refl _ _).alloc (Nat.le_refl _) _
      | false =>
        rw [hq] at h1' hfe
        replace hfe := hide hfe
        clear hq
        go_wp2_with fail
        refine (h1' _).mono ?_
        rintro e w1 ⟨rfl, hw1⟩
        subst hw1
        go_wp2
        go_round
        case rel => exact ⟨k + 1, by omega, by go_num, hfe.out⟩
        case measure => simp only [intOf]; omega
    · obtain rfl : k = 22 := by omega
      have HN := hide (show signL l = none by
        rw [E.out, ← hf]; rfl)
      clear hf
      go_wp2
      refine bodyPost_ret (v := .tuple #[tkA ⟨0, [], 0, 0⟩ 0, .int .i64 0, .bool false]) ?_ rfl ⟨⟨_, rfl, ?_⟩, ?_⟩
      · simp [results, Tryd.results72, go_sem, tkA]
      · rw [HN.out]
        exact ⟨_, _, rfl⟩
      · exact (Below.refl _ _).alloc (Nat.le_refl _) _
end Go.Proofs.YtkicbmjjbnblfaaDoor
