/- The contract of the document's Walk; appends of ints. -/
import Derived.Test.YtaffoannpnifmaaWkW
namespace Go.Proofs.Ytaffoannpnifmaa
open Go.RowKit
theorem run_append_nil3 (ty : Nat) (v : Value) (hv : ∃ a n cap, v = .slice a n cap ∧ n ≤ cap) (c : Nat) (W : World) : (Builtin.append_ #[42, 42] ty #[v, .slice none 0 c]).run Try.prog W = .ok v W := by
  obtain ⟨a, n, cap, rfl, hn⟩ := hv
  cases a <;> simp [Builtin.append_, go_sem, hn]
theorem owns_slice {w : World} {base n e s : Nat} {v : Value} {xs : List Value} (h : w.ownsRow base e s v n xs) : ∃ a cap, v = .slice a n cap ∧ n ≤ cap := by
  rcases h.2 with ⟨hv, h0⟩ | ⟨g', cap', cur, hv, hb, hg, hn, hm, hc, ht⟩
  · exact ⟨_, _, by rw [h0]; exact hv, by omega⟩
  · exact ⟨_, _, hv, hn⟩
theorem add_at (b off j : Nat) : (⟨b, off, none⟩ : Addr).add j = ⟨b, off + j, none⟩ := by unfold Addr.add; split <;> simp_all
theorem run_append_ints (w : World) (base ty n : Nat) (v : Value) (xs : List Value) (hown : w.ownsRow base 3 1 v n xs) (u : Value) (l : List Int) (hL : ILst w u l) (hbytes : ((n + l.length) + (n + l.length) / 4 + 192) * 8 ≤ 281474976710656) (hbase : base ≤ w.heap.size) :
    ∃ v' w', (Builtin.append_ #[42, 42] ty #[v, u]).run Try.prog w = .ok v' w' ∧ w'.ownsRow base 3 1 v' (n + l.length) (xs ++ intC l) ∧ w.grownBy w' v.ownBlock := by
  obtain ⟨i0, hi, hz0, hz1, hz2⟩ := info_parts info3
  obtain ⟨a, b, off, c, rfl, hA, hI⟩ := hL
  have main : ∀ ad : Addr, a = some ad → (∀ j x, (intC l)[j]? = some x → w.cell? (ad.add j) = some x) → ∃ v' w', (Builtin.append_ #[42, 42] ty #[v, .slice a l.length c]).run Try.prog w = .ok v' w' ∧ w'.ownsRow base 3 1 v' (n + l.length) (xs ++ intC l) ∧ w.grownBy w' v.ownBlock := fun ad had hc => by
    subst had
    obtain ⟨v', w', hr, h2, h3, h4⟩ := run_append_own_wide (P := Try.prog) w base 42 ty 3 i0 _ 1 8 Try.underlying42 hi hz0 hz1 hz2 rfl (by omega) _ n xs hown ad l.length c (intC l) (by rw [intC_length]; omega) hc (intC_one l) (by unfold maxLen; omega) hbytes hbase
    exact ⟨v', w', hr, h2, h3⟩
  by_cases hn : 0 < l.length
  · obtain ⟨_, rfl⟩ := hA hn
    refine main _ rfl fun j x hx => ?_
    rw [intC_get] at hx
    cases hy : l[j]? with
    | none => rw [hy] at hx; cases hx
    | some y =>
      rw [hy] at hx
      have hx : Value.int .i64 y = x := by simpa using hx
      subst hx
      rw [add_at]
      exact hI j y hy
  · have hl : l = [] := List.eq_nil_of_length_eq_zero (by omega)
    subst hl
    cases a with
    | some ad => exact main ad rfl (fun j x hx => by cases hx)
    | none =>
      obtain ⟨a, cap, hv, hc⟩ := owns_slice hown
      refine ⟨v, w, run_append_nil3 ty v ⟨_, _, _, hv, hc⟩ c w, ?_, ⟨rfl, rfl, rfl, Nat.le_refl _, fun _ _ _ => rfl⟩⟩
      show w.ownsRow base 3 1 v n (xs ++ [])
      rw [List.append_nil]; exact hown
theorem wpList_append_ints {w : World} {ops : Array Oper} {rest : List Oper} {o : Oper} {a : Act} {Q : Exit → Act → World → Prop} (hgd : Region.wanted o (yielded ops a.tmps) = true) (s x : Operand)
    (ho : o.op = .call { callee := .builtin .append, args := #[s, x], argTypes := #[42, 42] })
    (base n : Nat) (v : Value) (xs : List Value) (hs : a.eval s = v) (hown : w.ownsRow base 3 1 v n xs) (u : Value) (l : List Int) (hx : a.eval x = u) (hL : ILst w u l) (hbytes : ((n + l.length) + (n + l.length) / 4 + 192) * 8 ≤ 281474976710656) (hbase : base ≤ w.heap.size)
    (h : ∀ v' w', w'.ownsRow base 3 1 v' (n + l.length) (xs ++ intC l) → w.grownBy w' v.ownBlock → wpList Try.prog ops Q rest (a.put o.dst v') w') : wpList Try.prog ops Q (o :: rest) a w := by
  refine wpList_step fun K hK => ?_
  rw [if_pos hgd]
  obtain ⟨v', w', hr, h2, h3⟩ := run_append_ints w base o.type n v xs hown u l hL hbytes hbase
  unfold Oper.wp execOp
  simp only [ho, resolve, invoke, builtin, Sem.run_bind, Sem.run_pure, Result.andThen_ok, List.map_toArray, List.map_cons, List.map_nil, hs, hx, hr]
  exact hK _ _ (h v' w' h2 h3)
theorem ILst.lit (w : World) (x : Int) : ILst (w.alloc (.cells #[.int .i64 x] 3)) (.slice (some ⟨w.heap.size, 0, none⟩) 1 1) [x] :=
  ILst.of_owns (base := w.heap.size) (l := [x]) (World.ownsRow_lit (e := 3) (size := 1) w #[.int .i64 x] 1 (Nat.le_refl _) (by decide) rfl)
/-- what lies in a slice of one's own, or below, stays behind an append -/
theorem below_app {w w1 w2 : World} {base n : Nat} {v : Value} {xs : List Value} (h : Below base w w1) (hb : base ≤ w1.heap.size) (ho : w1.ownsRow base 3 1 v n xs) (hg : w1.grownBy w2 v.ownBlock) : Below base w w2 :=
  h.grown hg hb fun k hk => (ho.lt k hk).1
theorem walkL_take (f : Nat) (l : List Int) (k : Nat) (hk : k < l.length) : (walkL f l).take (k + 1) = (walkL f l).take k ++ [((wlk f l (k + 1) : Nat) : Int)] := by
  have h : k < (walkL f l).length := by rw [walkL_length]; exact hk
  rw [List.take_succ_eq_append_getElem h]
  refine congrArg (_ ++ [·]) ?_
  have e : (walkL f l)[k]? = some ((wlk f l (k + 1) : Nat) : Int) := by unfold walkL; rw [List.getElem?_map, List.getElem?_range hk]; rfl
  exact (List.getElem?_eq_some_iff.1 e).2
theorem wlk_mod {f : Nat} {l : List Int} {k : Nat} {z : Int} (hf : f < 4) (hz : l[k]? = some z) (hs : isS z = true) : ((wlk f l k : Int) + z + 4).tmod 4 = ((wlk f l (k + 1) : Nat) : Int) := by
  have h1 := wlk_lt hf l k
  have h2 := (isS_iff z).1 hs
  rw [Int.tmod_eq_emod_of_nonneg (by omega), wlk, List.getD_eq_getElem?_getD, hz]
  simp only [Option.getD_some]
  omega
set_option maxRecDepth 100000 in
set_option maxHeartbeats 1600000 in
theorem refWalk_any (f : Int) (v : Value) (l : List Int) (w : World) (hL : ILst w v l) (hlen : l.length ≤ 17592186044416) : Calls Try.prog 21 #[.int .i64 f, v] w (WalkPost f l w) := by
  by_cases hf : isP f = true
  case neg =>
    have HR : Hid (WalkPost f l w (.returned (.tuple #[.slice none 0 0, .int .i64 1])) w) := by
      unfold WalkPost okW
      rw [Bool.eq_false_iff.2 hf]
      exact ⟨_, rfl, ILst.nil _ _, Below.refl _ _⟩
    obtain ⟨a, cap, rfl⟩ := hL.shape
    have m1 := fun W => is_any f W
    rw [Bool.eq_false_iff.2 hf] at m1
    generalize l.length = N at *
    generalize WalkPost f l w = Post at *
    clear hf hL
    go_enter Try.func21, Try.ntmps21
    go_wp2_with (first | (go_at_call 13; refine (m1 _).mono ?_; rintro e w1 ⟨rfl, rfl⟩))
    exact HR.out
  case pos =>
    have m1 := fun W => is_any f W
    rw [hf] at m1
    obtain ⟨F, hF, rfl⟩ := isP_nat hf
    have HR : Hid (l.all isS = true → ∀ w' v', ILst w' v' (walkL F l) → Below w.heap.size w w' → WalkPost F l w (.returned (.tuple #[v', .int .i64 0])) w') := fun hs w' v' hv hb => by
      unfold WalkPost okW
      rw [hf, hs]
      exact ⟨_, rfl, by simpa using hv, hb⟩
    have HR2 : Hid (l.all isS = false → ∀ w', Below w.heap.size w w' → WalkPost F l w (.returned (.tuple #[.slice none 0 0, .int .i64 1])) w') := fun hs w' hb => by
      unfold WalkPost okW
      rw [hf, hs]
      exact ⟨_, rfl, ILst.nil _ _, hb⟩
    obtain ⟨a, b, off, cap, rfl, hA, hI⟩ := hL
    have HA := hide hA
    have HI := hide hI
    obtain ⟨N, hN⟩ : ∃ N, N = l.length := ⟨_, rfl⟩
    have HN := hide hN
    rw [← hN] at hlen ⊢
    have n5 : (N : Int) ≤ 17592186044416 := by omega
    have n0 : (0 : Int) ≤ (N : Int) := by omega
    have HF := hide hF
    generalize WalkPost F l w = Post at *
    clear hf hA hI hN hF
    go_enter Try.func21, Try.ntmps21
    go_wp2_with (first | (go_at_call 13; refine (m1 _).mono ?_; rintro e w1 ⟨rfl, rfl⟩))
    clear m1
    go_loopw [0, 6, 7] (fun fr o i wr => ∃ (k c : Nat) (ov : Value), k ≤ N ∧ i = .int .i64 (k : Int) ∧ fr = .int .i64 (c : Int) ∧ ov = o ∧ Hid (c = wlk F l k ∧ (l.take k).all isS = true ∧ wr.ownsRow w1.heap.size 3 1 ov k (intC ((walkL F l).take k)) ∧ Below w1.heap.size w1 wr)) (fun _ _ i _ => N - (intOf i).toNat)
    case atStart => exact ⟨0, F, .slice none 0 0, by omega, rfl, rfl, rfl, rfl, rfl, World.ownsRow_nil _ _ _ _, Below.refl _ _⟩
    case round =>
      obtain ⟨k, c, ov, hk, rfl, rfl, rfl, hh⟩ := hrel
      have HC := hide hh.out.1
      have HT := hide hh.out.2.1
      have HO := hide hh.out.2.2.1
      have HB := hide hh.out.2.2.2
      have c3 : c < 4 := by rw [hh.out.1]; exact wlk_lt HF.out l k
      have c4 : (c : Int) ≤ 3 := by omega
      have c5 : (0 : Int) ≤ (c : Int) := by omega
      clear hh
      by_cases hlt : k < N
      · have j1 : (k : Int) < (N : Int) := by omega
        have j0 : (0 : Int) ≤ (k : Int) := by omega
        obtain ⟨z, hz⟩ : ∃ z, l[k]? = some z := ⟨_, List.getElem?_eq_getElem (by rw [← HN.out]; exact hlt)⟩
        have HZ := hide hz
        obtain ⟨hbw, rfl⟩ := HA.out (by rw [← HN.out]; omega)
        have cc := (HB.out.cell (p := ⟨b, off + k, none⟩) hbw).trans (HI.out k z hz)
        clear hz
        by_cases hs : isS z = true
        · have z1 : -1 ≤ z := by have := (isS_iff z).1 hs; omega
          have z2 : z ≤ 1 := by have := (isS_iff z).1 hs; omega
          have hmod : ((c : Int) + z + 4).tmod 4 = ((wlk F l (k + 1) : Nat) : Int) := by rw [HC.out]; exact wlk_mod HF.out HZ.out hs
          have HT2 := hide (alls_take HT.out HZ.out hs)
          have HWT := hide (walkL_take F l k (by rw [← HN.out]; exact hlt))
          obtain ⟨oa, ocap, hov, hoc⟩ := owns_slice HO.out
          subst hov
          clear hs
          have hsz := HB.out.size
          go_wp2_with (first | (at_builtin; refine wpList_append_ints (by rfl) _ _ (by rfl) w1.heap.size k _ _ (by rfl) (HO.out.alloc _) _ _ (by rfl) (ILst.lit _ _) (by simp only [List.length_cons, List.length_nil]; omega) (by simp; omega) ?_; intro v' w3 hown3 hgr3))
          go_roundw
          case rel =>
            refine ⟨k + 1, wlk F l (k + 1), v', by omega, by go_num, rfl, rfl, rfl, HT2.out, ?_, below_app (HB.out.alloc hsz _) (by simp; omega) (HO.out.alloc _) hgr3⟩
            rw [HWT.out, intC_append]
            exact hown3
          case measure => simp [intOf]; omega
        · have HE := hide (HR2.out (alls_no HZ.out (Bool.eq_false_iff.2 hs)) _ HB.out)
          have h3 : z < -1 ∨ 1 < z := by
            have : ¬ (z = 0 ∨ z = 1 ∨ z = -1) := fun h => hs ((isS_iff z).2 h)
            omega
          clear hs
          rcases h3 with h3 | h3
          · go_wp2
            exact HE.out
          · have h4 : ¬ z < -1 := by omega
            go_wp2
            exact HE.out
      · have hall : l.all isS = true := by
          have e : k = l.length := by rw [← HN.out]; omega
          have h4 := HT.out
          rwa [e, List.take_length] at h4
        have hL : ILst wr ov (walkL F l) := by
          have e : k = (walkL F l).length := by rw [walkL_length, ← HN.out]; omega
          have h4 := HO.out
          rw [e, List.take_length] at h4
          exact ILst.of_owns (base := w1.heap.size) h4
        have HE := hide (HR.out hall _ _ hL HB.out)
        have i5 : ¬ (k : Int) < (N : Int) := by omega
        clear hall hL hlt
        go_wp2
        exact HE.out
end Go.Proofs.Ytaffoannpnifmaa
