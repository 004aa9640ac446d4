/- NxP | ShX | EeV | EfV -/
import Derived.Test.YtldjiieckddhkaaGreatDoorMg31
import Derived.Sort.Walk0
import Derived.Test.YtldjiieckddhkaaGreatDoorEdV
import Derived.Test.YtldjiieckddhkaaGreatDoorMg29
namespace Go.Proofs.YtldjiieckddhkaaGreatDoor
open Go.Lib
theorem ltB_less : ∀ a b : Bs, ltB a b = Op.bytesLess a b
  | [], [] => rfl
  | [], _ :: _ => rfl
  | _ :: _, [] => rfl
  | a :: x, b :: y => by
    unfold ltB Op.bytesLess
    rw [ltB_less x y]
    by_cases h1 : a < b
    · simp [h1]
    · by_cases h2 : b < a
      · have h3 : ¬ a = b := fun e => by rw [e] at h2; exact absurd h2 (UInt8.lt_irrefl _)
        simp [h1, h2, h3]
      · have h3 : a = b := UInt8.le_antisymm (UInt8.not_lt.1 h2) (UInt8.not_lt.1 h1)
        simp [h3]
theorem lt_ltB (a b : Bs) : decide (a < b) = ltB a b := by rw [ltB_less, bytesLess_eq]
theorem le_ltB (a b : Bs) : decide (a ≤ b) = !ltB b a := by
  rw [← lt_ltB]
  by_cases h : b < a
  · rw [decide_eq_true h]
    exact decide_eq_false (fun h2 => absurd h (List.not_lt.2 h2))
  · rw [decide_eq_false h]
    exact decide_eq_true (List.not_lt.1 h)
theorem leB_trans {a b c : Bs} (h1 : ltB b a = false) (h2 : ltB c b = false) : ltB c a = false := by
  cases h : ltB c a with
  | false => rfl
  | true =>
    cases h3 : ltB a b with
    | true => rw [ltB_trans h h3] at h2; cases h2
    | false =>
      have := ltB_tri a b h3 h1
      subst this
      rw [h] at h2; cases h2
theorem ltB_asym {a b : Bs} (h : ltB a b = true) : ltB b a = false := by
  cases h2 : ltB b a with
  | false => rfl
  | true => have := ltB_trans h h2; rw [ltB_irr] at this; cases this
theorem leB_lt {a b c : Bs} (h1 : ltB b a = false) (h2 : ltB b c = true) : ltB a c = true := by
  cases h3 : ltB a b with
  | true => exact ltB_trans h3 h2
  | false =>
    have := ltB_tri a b h3 h1
    subst this
    exact h2
theorem compact_sorted {zs : List Bs} (hs : zs.Pairwise fun a b => ltB b a = false) : (∀ y, y ∈ compact zs ↔ y ∈ zs) ∧ (compact zs).Pairwise fun a b => ltB a b = true := by
  have key : ∀ m, m ≤ zs.length → (∀ y, y ∈ compactUpTo zs.toArray m ↔ y ∈ zs.take m) ∧ (compactUpTo zs.toArray m).Pairwise fun a b => ltB a b = true := by
    intro m
    induction m with
    | zero => intro _; exact ⟨fun y => by simp [compactUpTo], by simp [compactUpTo]⟩
    | succ m ih =>
      intro hm
      obtain ⟨h1, h2⟩ := ih (by omega)
      have hget : zs.toArray[m]! = zs[m]'(by omega) := by simp [getElem!_pos, show m < zs.length by omega]
      have htk : zs.take (m + 1) = zs.take m ++ [zs[m]'(by omega)] := by rw [List.take_add_one, List.getElem?_eq_getElem (by omega)]; rfl
      rw [compactUpTo_succ, htk]
      by_cases hk : keeps zs.toArray m = true
      · rw [if_pos hk, hget]
        refine ⟨fun y => ?_, ?_⟩
        · rw [List.mem_append, List.mem_append, h1]
        · rw [List.pairwise_append]
          refine ⟨h2, List.pairwise_singleton _ _, fun a ha b hb => ?_⟩
          rw [List.mem_singleton] at hb
          subst hb
          have ha' := (h1 a).1 ha
          obtain ⟨i, hi, rfl⟩ := List.mem_iff_getElem.1 ha'
          rw [List.length_take] at hi
          rw [List.getElem_take]
          have hm0 : 0 < m := by omega
          have hne : zs[m]'(by omega) ≠ zs[m - 1]'(by omega) := by
            unfold keeps at hk
            have := of_decide_eq_true hk
            rcases this with h | h
            · omega
            · rw [hget] at h
              have h9 : zs.toArray[m - 1]! = zs[m - 1]'(by omega) := by simp [getElem!_pos, show m - 1 < zs.length by omega]
              rw [h9] at h
              exact h
          have hl1 : ltB (zs[m]'(by omega)) (zs[m - 1]'(by omega)) = false := List.pairwise_iff_getElem.1 hs (m - 1) m (by omega) (by omega) (by omega)
          have hlt : ltB (zs[m - 1]'(by omega)) (zs[m]'(by omega)) = true := by
            cases h : ltB (zs[m - 1]'(by omega)) (zs[m]'(by omega)) with
            | true => rfl
            | false => exact absurd (ltB_tri _ _ hl1 h) hne
          rcases Nat.lt_or_ge i (m - 1) with h | h
          · have h3 : ltB (zs[m - 1]'(by omega)) (zs[i]'(by omega)) = false := List.pairwise_iff_getElem.1 hs i (m - 1) (by omega) (by omega) h
            exact leB_lt h3 hlt
          · have : i = m - 1 := by omega
            subst this
            exact hlt
      · have hk' : keeps zs.toArray m = false := by simpa using hk
        rw [hk', if_neg (by decide), List.append_nil]
        refine ⟨fun y => ?_, h2⟩
        rw [List.mem_append, h1]
        constructor
        · exact .inl
        · rintro (h | h)
          · exact h
          · rw [List.mem_singleton] at h
            have hk2 : ¬ (m = 0 ∨ zs.toArray[m]! ≠ zs.toArray[m - 1]!) := by
              unfold keeps at hk'
              exact of_decide_eq_false hk'
            have hm0 : 0 < m := Nat.pos_of_ne_zero (fun e => hk2 (.inl e))
            have heq : zs.toArray[m]! = zs.toArray[m - 1]! := Decidable.byContradiction fun e => hk2 (.inr e)
            have h9 : zs.toArray[m - 1]! = zs[m - 1]'(by omega) := by simp [getElem!_pos, show m - 1 < zs.length by omega]
            rw [hget, h9] at heq
            rw [h, heq]
            exact List.mem_iff_getElem.2 ⟨m - 1, by rw [List.length_take]; omega, by rw [List.getElem_take]⟩
  have := key zs.length (Nat.le_refl _)
  rw [List.take_length] at this
  exact this
theorem sorted_of (l : List Bs) : (l.mergeSort fun a b => decide (a ≤ b)).Pairwise fun a b => ltB b a = false := by
  have h := List.pairwise_mergeSort (le := fun a b : Bs => decide (a ≤ b)) (fun a b c h1 h2 => by
    rw [le_ltB] at h1 h2 ⊢
    rw [leB_trans (by simpa using h1) (by simpa using h2)]
    rfl) (fun a b => by
    rw [le_ltB, le_ltB]
    cases h : ltB b a with
    | false => rfl
    | true => rw [ltB_asym h]; rfl) l
  exact h.imp fun {a b} h => by
    rw [le_ltB] at h
    simpa using h
theorem mem_nms (x : List Pt) (y : Bs) : y ∈ nmsS x ↔ y ∈ nmsL x := by
  unfold nmsS
  rw [(compact_sorted (sorted_of _)).1]
  exact (List.mergeSort_perm _ _).mem_iff
theorem nms_rise (x : List Pt) : (nmsS x).Pairwise fun a b => ltB a b = true := (compact_sorted (sorted_of _)).2
end Go.Proofs.YtldjiieckddhkaaGreatDoor
namespace Go.Proofs.YtldjiieckddhkaaGreatDoor
theorem rise_same : ∀ {a b : List Bs}, a.Pairwise (fun x y => ltB x y = true) → b.Pairwise (fun x y => ltB x y = true) → (∀ y, y ∈ a ↔ y ∈ b) → a = b
  | [], [], _, _, _ => rfl
  | [], y :: b, _, _, h => absurd ((h y).2 List.mem_cons_self) (by simp)
  | x :: a, [], _, _, h => absurd ((h x).1 List.mem_cons_self) (by simp)
  | x :: a, y :: b, ha, hb, h => by
    rw [List.pairwise_cons] at ha hb
    have hxy : x = y := by
      rcases List.mem_cons.1 ((h x).1 List.mem_cons_self) with e | e
      · exact e
      · rcases List.mem_cons.1 ((h y).2 List.mem_cons_self) with e2 | e2
        · exact e2.symm
        · have h1 := hb.1 x e
          have h2 := ha.1 y e2
          rw [ltB_asym h1] at h2
          cases h2
    subst hxy
    have : a = b := rise_same ha.2 hb.2 fun z => by
      constructor
      · intro hz
        rcases List.mem_cons.1 ((h z).1 (List.mem_cons_of_mem _ hz)) with e | e
        · have := ha.1 z hz
          rw [e, ltB_irr] at this
          cases this
        · exact e
      · intro hz
        rcases List.mem_cons.1 ((h z).2 (List.mem_cons_of_mem _ hz)) with e | e
        · have := hb.1 z hz
          rw [e, ltB_irr] at this
          cases this
        · exact e
    rw [this]
theorem nms_names (x : List Pt) : nmsS x = namesP x := by
  refine rise_same (nms_rise x) (names_sorted x) fun y => ?_
  rw [mem_nms, mem_names]
  unfold nmsL
  rw [List.mem_filter, List.mem_map]
  constructor
  · rintro ⟨⟨p, hp, rfl⟩, h⟩
    refine ⟨p, hp, rfl, fun e => ?_⟩
    rw [e] at h
    cases h
  · rintro ⟨p, hp, rfl, h⟩
    refine ⟨⟨p, hp, rfl⟩, ?_⟩
    cases hs : p.s with
    | nil => exact absurd hs h
    | cons c r => rfl
def back : List Pt → Nat → Option Nat
  | [], _ => none
  | p :: r, n => if n + takes p = 1 then some r.length else back r (n + takes p - 1)
theorem back_cons (p : Pt) (r : List Pt) (n : Nat) : back (p :: r) n = if n + takes p = 1 then some r.length else back r (n + takes p - 1) := rfl
theorem back_flat : ∀ (e : Ex), well e → ∀ (n : Nat) (r : List Pt), 1 ≤ n → back ((flat e).reverse ++ r) n = if n = 1 then some r.length else back r (n - 1)
  | .leaf p, hw, n, r, hn => by
    show back (p :: r) n = _
    rw [back_cons, hw.1, Nat.add_zero]
  | .one p e, hw, n, r, hn => by
    show back ((flat e ++ [p]).reverse ++ r) n = _
    rw [List.reverse_append]
    show back (p :: ((flat e).reverse ++ r)) n = _
    rw [back_cons, hw.1, if_neg (by omega), show n + 1 - 1 = n from by omega, back_flat e hw.2.2 n r hn]
  | .two p a b, hw, n, r, hn => by
    show back ((flat a ++ (flat b ++ [p])).reverse ++ r) n = _
    rw [List.reverse_append, List.reverse_append]
    show back (p :: ((flat b).reverse ++ (flat a).reverse ++ r)) n = _
    rw [back_cons, hw.1, if_neg (by omega), show n + 2 - 1 = n + 1 from by omega, List.append_assoc, back_flat b hw.2.2.2 (n + 1) _ (by omega), if_neg (by omega), show n + 1 - 1 = n from by omega, back_flat a hw.2.2.1 n r hn]
end Go.Proofs.YtldjiieckddhkaaGreatDoor
namespace Go.Proofs.YtldjiieckddhkaaGreatDoor
open Go.RowKit Go.Sort
theorem back_at {l : List Pt} {k : Nat} {p : Pt} (h : l[k]? = some p) (n : Nat) : back (l.take (k + 1)).reverse n = if n + takes p = 1 then some k else back (l.take k).reverse (n + takes p - 1) := by
  have hk := (List.getElem?_eq_some_iff.1 h).1
  rw [List.take_add_one, h]
  show back (l.take k ++ [p]).reverse n = _
  rw [List.reverse_append]
  show back (p :: (l.take k).reverse) n = _
  rw [back_cons, List.length_reverse, List.length_take, Nat.min_eq_left (Nat.le_of_lt hk)]
set_option maxRecDepth 100000 in
set_option maxHeartbeats 3200000 in
theorem from10_any (v : Value) (x : List Pv) (w : World) (hL : PLst w v x) (hlen : x.length ≤ 500) (e0 s0 : Nat) (he : e0 < x.length) (hs : back ((x.map ptV).take (e0 + 1)).reverse 1 = some s0) : Calls Tryz.prog 53 #[v, .int .i64 (e0 : Int)] w fun e w' => e = .returned (.int .i64 (s0 : Int)) ∧ Below w.heap.size w w' := by
  obtain ⟨a, b, off, cap, rfl, hA, hI⟩ := hL
  obtain ⟨hbw, rfl⟩ := hA (by omega)
  have HI := hide hI
  obtain ⟨N, hN⟩ : ∃ N, N = x.length := ⟨_, rfl⟩
  have HN := hide hN
  rw [← hN] at hlen he ⊢
  have n5 : (N : Int) ≤ 500 := by omega
  have HS := hide hs
  have e5 : (e0 : Int) < (N : Int) := by omega
  clear hN hA hI hs
  go_enter Tryz.func53, Tryz.ntmps53
  go_wp2_with fail
  go_loopw [5, 6] (fun nv i wr => ∃ (k n : Nat), k ≤ e0 + 1 ∧ i = .int .i64 ((k : Int) - 1) ∧ nv = .int .i64 (n : Int) ∧ n + k ≤ 2 * e0 + 3 - k + k ∧ Hid (back ((x.map ptV).take k).reverse n = some s0 ∧ 1 ≤ n ∧ n + k ≤ e0 + 2 + (e0 + 1 - k) ∧ Below w.heap.size w wr)) (fun _ i _ => ((intOf i) + 1).toNat)
  case atStart => exact ⟨e0 + 1, 1, by omega, by go_num, rfl, by omega, HS.out, by omega, by omega, Below.refl _ _⟩
  case round =>
    obtain ⟨k, n, hk, rfl, rfl, _, hh⟩ := hrel
    obtain ⟨hb, h1, hnk, hB⟩ := hh.out
    have HBk := hide hb
    have HB := hide hB
    clear hh hb hB
    cases k with
    | zero => exact absurd HBk.out (by rw [List.take_zero]; show back [] n ≠ _; unfold back; simp)
    | succ k =>
      have j1 : (k : Int) < (N : Int) := by omega
      have j0 : (0 : Int) ≤ (k : Int) := by omega
      have j3 : ((k + 1 : Nat) : Int) - 1 = (k : Int) := by omega
      rw [j3]
      obtain ⟨y, hy⟩ : ∃ y, x[k]? = some y := ⟨_, List.getElem?_eq_getElem (by rw [← HN.out]; omega)⟩
      have HY : Hid ((x.map ptV)[k]? = some (ptV y)) := by show _ = _; rw [List.getElem?_map, hy]; rfl
      obtain ⟨q0, q1, q2, q3, q4⟩ := HI.out k y hy
      have c0 := (HB.out.cell (p := ⟨b, off + k * 5, none⟩) hbw).trans q0
      have c1 := (HB.out.cell (p := ⟨b, off + k * 5 + 1, none⟩) hbw).trans q1
      have c2 := (HB.out.cell (p := ⟨b, off + k * 5 + 2, none⟩) hbw).trans q2
      have c3 := (HB.out.cell (p := ⟨b, off + k * 5 + 3, none⟩) hbw).trans q3
      have c4 := (HB.out.cell (p := ⟨b, off + k * 5 + 4, none⟩) hbw).trans q4
      clear q0 q1 q2 q3 q4 hy
      have m1 := fun W => qTakes_v y W
      have htk := takes_le (ptV y)
      have HST := hide (back_at HY.out n)
      go_wp2_with fail
      refine (m1 _).mono ?_
      rintro e w1 ⟨rfl, hb1⟩
      have BB := hide (HB.out.trans (hb1.mono HB.out.size))
      obtain ⟨tk, htk2⟩ : ∃ tk, tk = takes (ptV y) := ⟨_, rfl⟩
      rw [← htk2] at htk HST ⊢
      have t5 : (tk : Int) ≤ 2 := by omega
      have t0 : (0 : Int) ≤ (tk : Int) := by omega
      have n6 : (n : Int) ≤ 2000 := by omega
      have n7 : (1 : Int) ≤ (n : Int) := by omega
      clear c0 c1 c2 c3 c4 m1 hb1 htk2
      by_cases hz : n + tk = 1
      · have hE : s0 = k := by
          have h := HBk.out
          rw [HST.out, if_pos hz] at h
          exact (Option.some.inj h).symm
        subst hE
        have z0 : (n : Int) + ((tk : Int) - 1) = 0 := by omega
        go_wp2
        go_ret
        exact ⟨rfl, BB.out⟩
      · have HNX : Hid (back ((x.map ptV).take k).reverse (n + tk - 1) = some s0) := by
          show _ = _
          have h := HBk.out
          rw [HST.out, if_neg hz] at h
          exact h
        have z0 : (n : Int) + ((tk : Int) - 1) = ((n + tk - 1 : Nat) : Int) := by omega
        have z1 : (((n + tk - 1 : Nat) : Int) == 0) = false := by rw [beq_eq_false_iff_ne]; omega
        have z2 : 1 ≤ n + tk - 1 := by omega
        have z3 : n + tk - 1 ≤ n + 1 := by omega
        generalize n + tk - 1 = n' at *
        go_wp2
        go_roundw
        case rel => exact ⟨k, n', by omega, by go_num, rfl, by omega, HNX.out, z2, by omega, BB.out⟩
        case measure => simp [intOf]
theorem run_tot : ∀ {x : List Pt} {st st' : List Dv}, Wf x st.length → mRun partD x st = .ok st' → totD st' ≤ totD st + x.length
  | [], st, st', _, h => by obtain rfl := Except.ok.inj (show Except.ok (ε := Int) st = .ok st' from h); exact Nat.le_refl _
  | p :: x, st, st', hw, h => by
    have h' := h
    unfold mRun at h'
    cases hs : mStep partD p st with
    | error e => rw [hs] at h'; cases h'
    | ok s1 =>
      rw [hs] at h'
      have h1 := run_tot (by rw [step_len hs hw.1]; exact hw.2) h'
      have h2 := step_tot hw.1 hs
      rw [List.length_cons]; omega
theorem reck_len {x : List Pt} {d : Dv} (hw : Wf x 0) (h : reckD x = .ok d) : d.nums.length ≤ x.length := by
  unfold reckD at h
  cases hr : mRun partD x [] with
  | error e => rw [hr] at h; cases h
  | ok st =>
    rw [hr] at h
    have h1 : endD (st.headD (dT 0)) = .ok d := h
    have h2 := run_tot (st := []) hw hr
    have h3 : totD ([] : List Dv) = 0 := rfl
    unfold endD at h1
    split at h1
    · cases h1
    · rw [← Except.ok.inj h1]
      cases st with
      | nil => exact Nat.zero_le _
      | cons a r =>
        have := tot_mem (l := a :: r) (d := a) (by simp)
        show a.nums.length ≤ _
        omega
set_option maxRecDepth 100000 in
set_option maxHeartbeats 3200000 in
theorem fitsN_any (v : Value) (x : List Pv) (t : Int) (w : World) (hX : PLst w v x) (hc : checkP (x.map ptV) = 0) (hs : ∀ p ∈ x.map ptV, p.s = []) : Calls Tryz.prog 25 #[.slice none 0 0, v, .int .i64 t] w fun e w' => e = .returned (.int .i64 (fitsD (x.map ptV) t)) ∧ Below w.heap.size w w' := by
  have m1 := reckN_any v x w hX hc hs
  have HW : Hid (∀ d, reckD (x.map ptV) = .ok d → d.nums.length ≤ 1000) := fun d h => by
    obtain ⟨e0, hwell, hflat, -, -, hlen⟩ := check_tree hc
    have := reck_len (by rw [← hflat]; exact wf_tree hwell) h
    omega
  have HF : Hid (fitsD (x.map ptV) t = match reckD (x.map ptV) with
    | .error e => e
    | .ok v => if v.t = t ∧ t ≠ 0 then 0 else if v.t ≠ 0 ∨ wholeB t = false then 40 else if fitN v.nums t = false then 1 else 0) := rfl
  have m47 := fun W => whole_any t W
  generalize fitsD (x.map ptV) t = E at *
  generalize reckD (x.map ptV) = R at *
  obtain ⟨va, vn, vc, rfl⟩ : ∃ a n c, v = .slice a n c := by obtain ⟨a, b, off, cap, rfl, -⟩ := hX; exact ⟨_, _, _, rfl⟩
  clear hX hc hs
  go_enter Tryz.func25, Tryz.ntmps25
  go_wp2_with fail
  refine m1.mono ?_
  rintro e w1 ⟨⟨t', er, xa, xn, xc, rfl, hm⟩, hb⟩
  have HB := hide hb
  have HBA : Hid (∀ o, Below w.heap.size w (w1.alloc o)) := fun o => hb.alloc hb.size o
  clear m1 hb
  cases R with
  | error z =>
    have HE : Hid (E = z) := HF.out
    obtain ⟨rfl, hz, -, -⟩ := hm
    have hz' : (er != 0) = true := by rw [bne_iff_ne]; exact hz
    clear HF hz HW m47
    go_wp2
    go_ret
    exact ⟨by rw [HE.out]; rfl, HBA.out _⟩
  | ok d =>
    obtain ⟨rfl, rfl, hN⟩ := hm
    have HF2 : Hid (E = if d.t = t ∧ t ≠ 0 then 0 else if d.t ≠ 0 ∨ wholeB t = false then 40 else if fitN d.nums t = false then 1 else 0) := HF.out
    have m48 := fit_any (.slice xa xn xc) d.nums t (w1.alloc (.cells #[.int .i64 d.t, .slice xa xn xc] 85)) (hN.on ((Below.refl _ _).alloc (Nat.le_refl _) _)) (HW.out d rfl)
    clear hN HF HW
    generalize d.nums = L at *
    generalize d.t = u at *
    by_cases h1 : u = t
    · subst h1
      by_cases h0 : u = 0
      · subst h0
        have HE : Hid (E = 40) := by show _ = _; rw [HF2.out, if_neg (fun h => h.2 rfl), if_pos (.inr rfl)]
        have hw : wholeB 0 = false := rfl
        rw [hw] at m47
        clear HF2 m48
        go_wp2_with (go_at_call 47; refine (m47 _).mono ?_; rintro e w' ⟨rfl, rfl⟩)
        go_ret
        exact ⟨by rw [HE.out]; rfl, HBA.out _⟩
      · have HE : Hid (E = 0) := by show _ = _; rw [HF2.out, if_pos ⟨rfl, h0⟩]
        have hu : (u != 0) = true := by rw [bne_iff_ne]; exact h0
        clear HF2 m48 m47 h0
        go_wp2
        go_ret
        exact ⟨by rw [HE.out]; rfl, HBA.out _⟩
    · have h1' : (u == t) = false := by rw [beq_eq_false_iff_ne]; exact h1
      by_cases h0 : u = 0
      · subst h0
        cases hw : wholeB t
        · have HE : Hid (E = 40) := by show _ = _; rw [HF2.out, if_neg (fun h => h1 h.1), if_pos (.inr hw)]
          rw [hw] at m47
          clear HF2 m48 h1 hw
          go_wp2_with (go_at_call 47; refine (m47 _).mono ?_; rintro e w' ⟨rfl, rfl⟩)
          go_ret
          exact ⟨by rw [HE.out]; rfl, HBA.out _⟩
        · rw [hw] at m47
          have hno : ¬ ((0 : Int) ≠ 0 ∨ wholeB t = false) := by rw [hw]; intro h; rcases h with h | h; exact h rfl; cases h
          cases hf : fitN L t
          · have HE : Hid (E = 1) := by show _ = _; rw [HF2.out, if_neg (fun h => h1 h.1), if_neg hno, if_pos hf]
            rw [hf] at m48
            clear HF2 h1 hw hf hno
            go_wp2_with (first | (go_at_call 47; refine (m47 _).mono ?_; rintro e w' ⟨rfl, rfl⟩) | (go_at_call 48; refine m48.mono ?_; rintro e w' ⟨rfl, rfl⟩))
            go_ret
            exact ⟨by rw [HE.out]; rfl, HBA.out _⟩
          · have HE : Hid (E = 0) := by show _ = _; rw [HF2.out, if_neg (fun h => h1 h.1), if_neg hno, if_neg (by rw [hf]; decide)]
            rw [hf] at m48
            clear HF2 h1 hw hf hno
            go_wp2_with (first | (go_at_call 47; refine (m47 _).mono ?_; rintro e w' ⟨rfl, rfl⟩) | (go_at_call 48; refine m48.mono ?_; rintro e w' ⟨rfl, rfl⟩))
            go_ret
            exact ⟨by rw [HE.out]; rfl, HBA.out _⟩
      · have HE : Hid (E = 40) := by show _ = _; rw [HF2.out, if_neg (fun h => h1 h.1), if_pos (.inl h0)]
        have hu : (u != 0) = true := by rw [bne_iff_ne]; exact h0
        clear HF2 m48 m47 h0 h1
        go_wp2
        go_ret
        exact ⟨by rw [HE.out]; rfl, HBA.out _⟩
set_option maxRecDepth 100000 in
set_option maxHeartbeats 1600000 in
theorem typeN_any (v : Value) (x : List Pv) (w : World) (hX : PLst w v x) (hc : checkP (x.map ptV) = 0) (hs : ∀ p ∈ x.map ptV, p.s = []) : Calls Tryz.prog 128 #[.slice none 0 0, v] w fun e w' => (∃ er, e = .returned (.tuple #[.int .i64 (typD (x.map ptV)), .int .i64 er])) ∧ Below w.heap.size w w' := by
  have m1 := reckN_any v x w hX hc hs
  have HF : Hid (typD (x.map ptV) = match reckD (x.map ptV) with
    | .error _ => 0
    | .ok v => v.t) := rfl
  generalize typD (x.map ptV) = E at *
  generalize reckD (x.map ptV) = R at *
  obtain ⟨va, vn, vc, rfl⟩ : ∃ a n c, v = .slice a n c := by obtain ⟨a, b, off, cap, rfl, -⟩ := hX; exact ⟨_, _, _, rfl⟩
  clear hX hc hs
  go_enter Tryz.func128, Tryz.ntmps128
  go_wp2_with fail
  refine m1.mono ?_
  rintro e w1 ⟨⟨t', er, xa, xn, xc, rfl, hm⟩, hb⟩
  have HBA : Hid (∀ o, Below w.heap.size w (w1.alloc o)) := fun o => hb.alloc hb.size o
  have HE : Hid (E = t') := by
    show _ = _
    rw [HF.out]
    cases R with
    | error z => exact hm.2.2.1.symm
    | ok d => exact hm.2.1.symm
  clear m1 hb hm HF
  go_wp2
  go_ret2
  exact ⟨⟨er, by rw [HE.out]; rfl⟩, HBA.out _⟩
set_option maxRecDepth 100000 in
theorem kindN_any (v : Value) (x : List Pv) (w : World) (hX : PLst w v x) (hc : checkP (x.map ptV) = 0) (hs : ∀ p ∈ x.map ptV, p.s = []) : Calls Tryz.prog 90 #[.slice none 0 0, v] w fun e w' => e = .returned (.int .i64 (typD (x.map ptV))) ∧ Below w.heap.size w w' := by
  have m1 := typeN_any v x w hX hc hs
  generalize typD (x.map ptV) = E at *
  obtain ⟨va, vn, vc, rfl⟩ : ∃ a n c, v = .slice a n c := by obtain ⟨a, b, off, cap, rfl, -⟩ := hX; exact ⟨_, _, _, rfl⟩
  clear hX hc hs
  go_enter Tryz.func90, Tryz.ntmps90
  go_wp2_with fail
  refine m1.mono ?_
  rintro e w1 ⟨⟨er, rfl⟩, hb⟩
  have HB := hide hb
  clear m1 hb
  go_wp2
  go_ret
  exact ⟨rfl, HB.out⟩
end Go.Proofs.YtldjiieckddhkaaGreatDoor
namespace Go.Proofs.YtldjiieckddhkaaGreatDoor
open Go.RowKit Go.Sort
theorem run_append_nilP (ty : Nat) (v : Value) (hv : ∃ a n cap, v = .slice a n cap ∧ n ≤ cap) (c : Nat) (W : World) : (Builtin.append_ #[23, 23] ty #[v, .slice none 0 c]).run Tryz.prog W = .ok v W := by
  obtain ⟨a, n, cap, rfl, hn⟩ := hv
  cases a <;> simp [Builtin.append_, go_sem, hn]
theorem run_append_pvs (w : World) (base ty n : Nat) (v : Value) (xs : List Value) (hown : w.ownsRow base 38 5 v n xs) (u : Value) (l : List Pv) (hL : PLst w u l) (hbytes : n + l.length ≤ 1000000) (hbase : base ≤ w.heap.size) :
    ∃ v' w', (Builtin.append_ #[23, 23] ty #[v, u]).run Tryz.prog w = .ok v' w' ∧ w'.ownsRow base 38 5 v' (n + l.length) (xs ++ pvsC l) ∧ w.grownBy w' v.ownBlock := by
  obtain ⟨i0, hi, hz0, hz1, hz2⟩ := info_parts in38
  obtain ⟨a, b, off, c, rfl, hA, hI⟩ := hL
  have main : ∀ ad : Addr, a = some ad → (∀ j x, (pvsC l)[j]? = some x → w.cell? (ad.add j) = some x) → ∃ v' w', (Builtin.append_ #[23, 23] ty #[v, .slice a l.length c]).run Tryz.prog w = .ok v' w' ∧ w'.ownsRow base 38 5 v' (n + l.length) (xs ++ pvsC l) ∧ w.grownBy w' v.ownBlock := fun ad had hc => by
    subst had
    obtain ⟨v', w', hr, h2, h3, h4⟩ := run_append_own_wide (P := Tryz.prog) w base 23 ty 38 i0 _ 5 56 Tryz.underlying23 hi hz0 hz1 hz2 rfl (by omega) _ n xs hown ad l.length c (pvsC l) (by rw [pvsC_length]) hc (pvsC_one l) (by unfold maxLen; omega) (by omega) hbase
    exact ⟨v', w', hr, h2, h3⟩
  by_cases hn : 0 < l.length
  · obtain ⟨_, rfl⟩ := hA hn
    exact main _ rfl (pv_cells hI)
  · have hl : l = [] := List.eq_nil_of_length_eq_zero (by omega)
    subst hl
    cases a with
    | some ad => exact main ad rfl (fun j x hx => by cases hx)
    | none =>
      obtain ⟨a, cap, hv, hc⟩ := own_formD hown
      refine ⟨v, w, run_append_nilP ty v ⟨_, _, _, hv, hc⟩ c w, ?_, ⟨rfl, rfl, rfl, Nat.le_refl _, fun _ _ _ => rfl⟩⟩
      show w.ownsRow base 38 5 v n (xs ++ [])
      rw [List.append_nil]; exact hown
theorem own_one_pv {w : World} {E : Nat} {x : Pv} (h : w.heap[E]? = some (.cells #[.int .i64 x.k, .int .i64 x.n, .int .i64 x.t, .string x.s, .string x.f] 38 (0, 0))) : PLst w (.slice (some ⟨E, 0, none⟩) 1 1) [x] :=
  PLst.of_owns (base := E) (l := [x]) ⟨rfl, .inr ⟨E, 1, _, rfl, Nat.le_refl _, h, Nat.le_refl _, by unfold maxLen; omega, rfl, rfl⟩⟩
theorem PLst.shapeV {w : World} {v : Value} {l : List Pv} (h : PLst w v l) : ∃ a cap, v = .slice a l.length cap := by
  obtain ⟨a, b, off, cap, rfl, _⟩ := h
  exact ⟨a, cap, rfl⟩
set_option maxRecDepth 100000 in
theorem pl_take {w : World} {v : Value} {l : List Pv} (h : PLst w v l) (k : Nat) (hk : k ≤ l.length) (hc : CapOk v) : ∃ a c, (∀ W, (Instr.slice 23 v none (some (.int .i64 (k : Int))) none).run Tryz.prog W = .ok (.slice a k c) W) ∧ PLst w (.slice a k c) (l.take k) ∧ k ≤ c := by
  obtain ⟨a, b, off, cap, rfl, hA, hI⟩ := h
  have hcap := hc _ _ _ rfl
  refine ⟨a, cap, fun W => ?_, ⟨a, b, off, cap, by rw [List.length_take, Nat.min_eq_left hk], fun h0 => hA (by rw [List.length_take] at h0; omega), fun i x hx => hI i x (by rw [List.getElem?_take] at hx; split at hx; exact hx; cases hx)⟩, by omega⟩
  have i1 : (k : Int) ≤ (cap : Int) := by omega
  have i0 : (0 : Int) ≤ (k : Int) := by omega
  by_cases h0 : 0 < l.length
  · obtain ⟨-, rfl⟩ := hA h0
    simp [go_sem, *]
  · obtain rfl : k = 0 := by omega
    cases a <;> simp [go_sem, *]
set_option maxRecDepth 100000 in
theorem pl_mid {w : World} {v : Value} {l : List Pv} (h : PLst w v l) (k m : Nat) (hk : k < m) (hm : m ≤ l.length) (hc : CapOk v) : ∃ a c, (∀ W, (Instr.slice 23 v (some (.int .i64 (k : Int))) (some (.int .i64 (m : Int))) none).run Tryz.prog W = .ok (.slice a (m - k) c) W) ∧ PLst w (.slice a (m - k) c) ((l.take m).drop k) ∧ m - k ≤ c := by
  obtain ⟨a, b, off, cap, rfl, hA, hI⟩ := h
  have hcap := hc _ _ _ rfl
  obtain ⟨hb, rfl⟩ := hA (by omega)
  have hlen : ((l.take m).drop k).length = m - k := by rw [List.length_drop, List.length_take, Nat.min_eq_left hm]
  refine ⟨some ⟨b, off + k * 5, none⟩, cap - k, fun W => ?_, ⟨_, b, off + k * 5, cap - k, by rw [hlen], fun _ => ⟨hb, rfl⟩, fun i x hx => ?_⟩, by omega⟩
  · have i0 : (0 : Int) ≤ (k : Int) := by omega
    have i1 : (k : Int) ≤ (m : Int) := by omega
    have i2 : (m : Int) ≤ (cap : Int) := by omega
    have i3 : ¬ cap = k := by omega
    have i4 : (0 : Int) ≤ (m : Int) := by omega
    simp [go_sem, *, addr_atD]
  · rw [List.getElem?_drop, List.getElem?_take] at hx
    split at hx
    · have := hI (k + i) x hx
      rw [show off + (k + i) * 5 = off + k * 5 + i * 5 from by omega] at this
      exact this
    · cases hx
end Go.Proofs.YtldjiieckddhkaaGreatDoor
