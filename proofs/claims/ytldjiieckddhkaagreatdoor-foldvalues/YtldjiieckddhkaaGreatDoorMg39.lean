/- EbV | EcV | QrW | QnW -/
import Derived.Test.YtldjiieckddhkaaGreatDoorEaV
import Derived.Test.YtldjiieckddhkaaGreatDoorMg1
namespace Go.Proofs.YtldjiieckddhkaaGreatDoor
open Go.RowKit Go.Sort
theorem in85 : (Tryz.prog.info? 85).map (fun i => (i.zero, i.size, i.bytes)) = some (some (.agg #[.int .i64 0, .slice none 0 0]), 2, 32) := by kernel_rfl
theorem dmC_take : ∀ (st : List Dm) (k : Nat), (dmC st).take (k * 2) = dmC (st.take k)
  | [], k => by simp [dmC]
  | x :: l, 0 => by simp [dmC]
  | x :: l, k + 1 => by
    rw [dmC_cons, List.take_append, show ([.int .i64 x.d.t, x.v] : List Value).length = 2 from rfl, show (k + 1) * 2 - 2 = k * 2 from by omega, dmC_take l k, List.take_of_length_le (by show 2 ≤ _; omega)]; rfl
theorem dm_at {w : World} {base g cap : Nat} {st : List Dm} (h : w.ownsRow base 85 2 (.slice (some ⟨g, 0, none⟩) st.length cap) st.length (dmC st)) : DAt w g 0 st := fun i x hx => by
  have hlt := (List.getElem?_eq_some_iff.1 hx).1
  obtain ⟨k0, k1⟩ := dmC_get st i x hx
  have key : ∀ j u, (dmC st)[j]? = some u → w.cell? ⟨g, j, none⟩ = some u := fun j u hu => by
    rw [h.cellAt j (by have := (List.getElem?_eq_some_iff.1 hu).1; rw [dmC_length] at this; omega)]; exact hu
  rw [Nat.zero_add]
  exact ⟨key _ _ k0, key _ _ k1⟩
def DLst (w : World) (v : Value) (l : List Dm) : Prop := ∃ (a : Option Addr) (b off cap : Nat), v = .slice a l.length cap ∧ (0 < l.length → b < w.heap.size ∧ a = some ⟨b, off, none⟩) ∧ DAt w b off l
set_option maxRecDepth 100000 in
theorem dm_from {w : World} {base : Nat} {v : Value} {st : List Dm} (h : w.ownsRow base 85 2 v st.length (dmC st)) (F : Nat) (hF : F ≤ st.length) :
    ∃ ov, (∀ W, (Instr.slice 110 v (some (.int .i64 (F : Int))) none none).run Tryz.prog W = .ok ov W) ∧ DLst w ov (st.drop F) := by
  rcases h.2 with ⟨rfl, h0⟩ | ⟨g, cap, cur, rfl, hb, hg, hn, hm, hc, ht⟩
  · have hl : st = [] := List.eq_nil_of_length_eq_zero h0
    subst hl
    obtain rfl : F = 0 := by simpa using hF
    exact ⟨.slice none 0 0, fun W => by simp [go_sem], none, 0, 0, 0, rfl, fun h => absurd h (Nat.lt_irrefl 0), fun i x hx => by cases hx⟩
  · have i1 : (F : Int) ≤ (st.length : Int) := by omega
    have i2 : (st.length : Int) ≤ (cap : Int) := by omega
    have i0 : (0 : Int) ≤ (F : Int) := by omega
    by_cases e : cap = F
    · refine ⟨.slice (some ⟨g, 0, none⟩) (st.length - F) (cap - F), fun W => by simp [go_sem, *], ?_⟩
      have : st.drop F = [] := List.drop_eq_nil_of_le (by omega)
      rw [this]
      exact ⟨_, g, 0, _, by rw [show st.length - F = 0 from by omega]; rfl, fun h => absurd h (Nat.lt_irrefl 0), fun i x hx => by cases hx⟩
    · refine ⟨.slice (some ⟨g, F * 2, none⟩) (st.length - F) (cap - F), fun W => by simp [go_sem, *], _, g, F * 2, _, by rw [List.length_drop], fun _ => ⟨(Array.getElem?_eq_some_iff.1 hg).1, rfl⟩, fun i x hx => ?_⟩
      rw [List.getElem?_drop] at hx
      obtain ⟨k0, k1⟩ := dm_at h (F + i) x hx
      rw [show F * 2 + i * 2 = 0 + (F + i) * 2 from by omega]
      exact ⟨k0, k1⟩
set_option maxRecDepth 100000 in
theorem dm_to {w : World} {base : Nat} {v : Value} {st : List Dm} (h : w.ownsRow base 85 2 v st.length (dmC st)) (F : Nat) (hF : F ≤ st.length) :
    ∃ a cap, (∀ W, (Instr.slice 110 v none (some (.int .i64 (F : Int))) none).run Tryz.prog W = .ok (.slice a F cap) W) ∧ w.ownsRow base 85 2 (.slice a F cap) F (dmC (st.take F)) := by
  obtain ⟨a, cap, rfl, hc⟩ := own_formD h
  refine ⟨a, cap, fun W => ?_, by rw [← dmC_take]; exact own_takeN h F hF⟩
  have i1 : (F : Int) ≤ (cap : Int) := by omega
  have i0 : (0 : Int) ≤ (F : Int) := by omega
  have i3 : ¬ cap < F := by omega
  rcases h.2 with ⟨h1, h0⟩ | ⟨g, cap', cur, h1, -⟩
  · injection h1 with e1 e2 e3
    subst e1 e3
    obtain rfl : F = 0 := by omega
    simp [go_sem]
  · injection h1 with e1 e2 e3
    subst e1 e3
    simp [go_sem, *]
theorem run_append_nilD (ty : Nat) (v : Value) (hv : ∃ a n cap, v = .slice a n cap ∧ n ≤ cap) (c : Nat) (W : World) : (Builtin.append_ #[110, 110] ty #[v, .slice none 0 c]).run Tryz.prog W = .ok v W := by
  obtain ⟨a, n, cap, rfl, hn⟩ := hv
  cases a <;> simp [Builtin.append_, go_sem, hn]
theorem run_append_dms (w : World) (base ty n : Nat) (v : Value) (xs : List Value) (hown : w.ownsRow base 85 2 v n xs) (base2 : Nat) (u : Value) (l : List Dm) (hu : w.ownsRow base2 85 2 u l.length (dmC l)) (hbytes : n + l.length ≤ 1000000) (hbase : base ≤ w.heap.size) :
    ∃ v' w', (Builtin.append_ #[110, 110] ty #[v, u]).run Tryz.prog w = .ok v' w' ∧ w'.ownsRow base 85 2 v' (n + l.length) (xs ++ dmC l) ∧ w.grownBy w' v.ownBlock := by
  obtain ⟨i0, hi, hz0, hz1, hz2⟩ := info_parts in85
  rcases hu.2 with ⟨h1, h2⟩ | ⟨g, cap, cur, h1, _, _, h4, _⟩
  · subst h1
    have hl : l = [] := List.eq_nil_of_length_eq_zero h2
    subst hl
    obtain ⟨a, c, hv, hn⟩ := own_formD hown
    refine ⟨v, w, run_append_nilD ty v ⟨_, _, _, hv, hn⟩ 0 w, ?_, ⟨rfl, rfl, rfl, Nat.le_refl _, fun _ _ _ => rfl⟩⟩
    show w.ownsRow base 85 2 v n (xs ++ [])
    rw [List.append_nil]; exact hown
  · subst h1
    have hcl := hu.cellAt
    obtain ⟨v', w', hr, h2, h3, h4, _⟩ := run_append_own_at (P := Tryz.prog) w base 110 ty 85 i0 _ 2 32 Tryz.underlying110 hi hz0 hz1 hz2 rfl (by omega) _ n xs hown ⟨g, 0, none⟩ l.length cap (dmC l) (by rw [dmC_length]) (fun j x hx => by
      have hj : j < l.length * 2 := by have := (List.getElem?_eq_some_iff.1 hx).1; rwa [dmC_length] at this
      rw [addr_atD, Nat.zero_add, hcl j hj, hx]) (dmC_one l) (by unfold maxLen; omega) (by omega) hbase
    exact ⟨v', w', hr, h2, h3⟩
theorem rd2 {P : Program} {ops : Array Oper} {Q : Exit → Act → World → Prop} {md : Region.Mode} {S : World → Prop} (i j : Nat) {d d' : Option Tmp} {o o' : Op} {t t' : TypeId} {p p' : String} {f f' : Array Edge} {fuel : Nat} {listed : Array Bool} {a : Act} {w : World}
    (h : ∀ K' : Act → World → Prop, Shut (∀ a w, S w → (S w → wpAnyH P md ops Q S fuel (listed.setIfInBounds i true) a w) → K' a w) → if Region.wanted (⟨d, o, t, p, f, none⟩ : Oper) (yielded ops a.tmps) = true then Oper.wp P ⟨d, o, t, p, f, none⟩ a w K' Q else K' (a.put d undef) w)
    (h' : ∀ K' : Act → World → Prop, Shut (∀ a w, S w → (S w → wpAnyH P md ops Q S fuel (listed.setIfInBounds j true) a w) → K' a w) → if Region.wanted (⟨d', o', t', p', f', none⟩ : Oper) (yielded ops a.tmps) = true then Oper.wp P ⟨d', o', t', p', f', none⟩ a w K' Q else K' (a.put d' undef) w)
    (hi : ops[i]? = some ⟨d, o, t, p, f, none⟩ := by rfl) (hj : ops[j]? = some ⟨d', o', t', p', f', none⟩ := by rfl) (hr : Region.ready md ops listed = [i, j] := by kernel_rfl) : wpAnyH P md ops Q S (fuel + 1) listed a w :=
  wpAnyH_ready hr (by simp) (AllReadyH.cons hi h (AllReadyH.cons hj h' AllReadyH.nil))
end Go.Proofs.YtldjiieckddhkaaGreatDoor
namespace Go.Proofs.YtldjiieckddhkaaGreatDoor
open Go.RowKit Go.Sort
set_option maxRecDepth 100000 in
theorem mayAll_nil (w : World) : Calls Tryz.prog 121 #[.slice none 0 0] w fun e w' => e = .returned (.bool true) ∧ w' = w := by
  go_enter Tryz.func121, Tryz.ntmps121
  go_wp2_with fail
  go_loop [3] (fun i => i = .int .i64 0) (fun _ => 0)
  case atStart => exact rfl
  case round =>
    obtain rfl := hrel
    go_wp2
    go_ret
    exact ⟨rfl, rfl⟩
set_option maxRecDepth 100000 in
theorem wrong_nil (w : World) : Calls Tryz.prog 87 #[.slice none 0 0] w fun e w' => e = .returned (.int .i64 0) ∧ w' = w := by
  have m1 := fun W => mayAll_nil W
  go_enter Tryz.func87, Tryz.ntmps87
  go_wp2_with (go_at_call 121; refine (m1 _).mono ?_; rintro e w' ⟨rfl, rfl⟩)
  go_ret
  exact ⟨rfl, rfl⟩
theorem kind_none {p : Pt} (hm : mayP p = true) (hs : p.s = []) : p.kind = 1 ∨ p.kind = 5 ∨ p.kind = 6 := by
  have hn : nameB [] = false := by decide
  unfold mayP at hm
  rw [hs, hn] at hm
  by_cases h1 : p.kind = 1
  · exact .inl h1
  rw [if_neg h1] at hm
  by_cases h2 : p.kind = 2 ∨ p.kind = 3
  · rw [if_pos h2] at hm; simp at hm
  rw [if_neg h2] at hm
  by_cases h4 : p.kind = 4
  · rw [if_pos h4] at hm; simp at hm
  rw [if_neg h4] at hm
  by_cases h5 : p.kind = 5
  · exact .inr (.inl h5)
  rw [if_neg h5] at hm
  by_cases h6 : p.kind = 6
  · exact .inr (.inr h6)
  rw [if_neg h6] at hm; cases hm
theorem part9_any (vv : Value) (y : Pv) (on : List Dm) (ov : Value) (w : World) (hm : mayP (ptV y) = true) (hs : (ptV y).s = []) (hl : takes (ptV y) = on.length) (hD : DLst w ov on) (hN : DNs w on) :
    Calls Tryz.prog 88 #[vv, .agg #[.int .i64 y.k, .int .i64 y.n, .int .i64 y.t, .string y.s, .string y.f], ov] w (POut (partD (ptV y) (on.map Dm.d)) w) := by
  obtain ⟨a, b, off, cap, rfl, hA, hI⟩ := hD
  rcases kind_none hm hs with h | h | h
  · have ht : takes (ptV y) = 0 := by unfold takes; rw [h]; rfl
    rw [ht] at hl
    obtain rfl := List.eq_nil_of_length_eq_zero hl.symm
    exact part_num vv y a cap w h
  · by_cases ho : (ptV y).n = 15 ∨ (ptV y).n = 16
    · have ht : takes (ptV y) = 1 := by unfold takes; rw [if_neg (by omega), if_pos ⟨h, ho⟩]
      rw [ht] at hl
      match on, hl, hA, hI, hN with
      | [x], _, hA, hI, hN =>
        obtain ⟨hb, rfl⟩ := hA (by simp)
        exact part_op1 vv y x b off cap w h hb hI hN
    · have ht : takes (ptV y) = 2 := by unfold takes; rw [if_neg (by omega), if_neg (fun h => ho h.2), if_pos h]
      rw [ht] at hl
      match on, hl, hA, hI, hN with
      | [x, z], _, hA, hI, hN =>
        obtain ⟨hb, rfl⟩ := hA (by simp)
        exact part_op2 vv y x z b off cap w h hb hI hN
  · have ht : takes (ptV y) = 1 := by unfold takes; rw [if_pos (.inr h)]
    rw [ht] at hl
    match on, hl, hA, hI, hN with
    | [x], _, hA, hI, hN =>
      obtain ⟨hb, rfl⟩ := hA (by simp)
      exact part_to vv y x b off cap w h hb hI hN
theorem oneD_ok {op : Int} {a v : Dv} (h : oneD op a = .ok v) : v = a := by
  unfold oneD at h
  generalize Four.has1 op (if a.t = 0 then 3 else a.t) = b at h
  cases b
  · cases h
  · exact (Except.ok.inj h).symm
def totD (l : List Dv) : Nat := (l.map fun d => d.nums.length).sum
theorem tot_app (a b : List Dv) : totD (a ++ b) = totD a + totD b := by unfold totD; rw [List.map_append, List.sum_append]
theorem part_tot {p : Pt} {on : List Dv} {v : Dv} (hl : takes p = on.length) (h : partD p on = .ok v) : v.nums.length ≤ totD on + 1 := by
  unfold partD at h
  split at h
  · rw [← Except.ok.inj h]; split
    · exact Nat.zero_le _
    · show 1 ≤ _; omega
  split at h
  · split at h
    · cases h
    · rw [← Except.ok.inj h]; exact Nat.zero_le _
  split at h
  · rename_i h1
    match on, h1 with
    | [a], _ =>
      have h : oneD p.n a = .ok v := h
      rw [oneD_ok h]; show _ ≤ ([a.nums.length].sum) + 1; simp
  · rename_i h1
    have := takes_le p
    match on, hl, h1, h with
    | [], _, _, h =>
      have h : twoD p.n (dT 0) (dT 0) = .ok v := h
      unfold twoD at h
      rw [if_pos ⟨rfl, rfl⟩] at h
      unfold noneD at h
      split at h
      · cases h
      split at h
      · rw [← Except.ok.inj h]; exact Nat.zero_le _
      split at h
      · cases h
      · rw [← Except.ok.inj h]; exact Nat.zero_le _
    | [a], _, h1, _ => exact absurd rfl h1
    | [a, b], _, _, h =>
      have h : twoD p.n a b = .ok v := h
      have ht : totD [a, b] = a.nums.length + b.nums.length := by unfold totD; simp
      unfold twoD at h
      split at h
      · unfold noneD at h
        split at h
        · cases h
        split at h
        · rw [← Except.ok.inj h, ht]; show (a.nums ++ b.nums).length ≤ _; rw [List.length_append]; omega
        split at h
        · cases h
        · rw [← Except.ok.inj h]; exact Nat.zero_le _
      split at h
      · cases h
      split at h
      · cases h
      · rw [← Except.ok.inj h]; exact Nat.zero_le _
    | a :: b :: c :: r, hl, _, _ =>
      have hl : takes p = r.length + 3 := hl
      omega
theorem tot_mem : ∀ {l : List Dv} {d : Dv}, d ∈ l → d.nums.length ≤ totD l
  | [], d, h => by cases h
  | a :: r, d, h => by
    have e : totD (a :: r) = a.nums.length + totD r := rfl
    rcases List.mem_cons.1 h with rfl | h
    · omega
    · have := tot_mem h; omega
theorem step_tot {p : Pt} {st st' : List Dv} (hl : takes p ≤ st.length) (h : mStep partD p st = .ok st') : totD st' ≤ totD st + 1 := by
  unfold mStep at h
  split at h
  · cases h
  · rename_i v hv
    rw [← Except.ok.inj h, tot_app]
    have h1 := part_tot (by rw [List.length_drop]; omega) hv
    have h2 : totD st = totD (st.take (st.length - takes p)) + totD (st.drop (st.length - takes p)) := by rw [← tot_app, List.take_append_drop]
    have h3 : totD [v] = v.nums.length := by unfold totD; simp
    omega
theorem dmap_take (st : List Dm) (k : Nat) : (st.take k).map Dm.d = (st.map Dm.d).take k := List.map_take
theorem dmap_drop (st : List Dm) (k : Nat) : (st.drop k).map Dm.d = (st.map Dm.d).drop k := List.map_drop
end Go.Proofs.YtldjiieckddhkaaGreatDoor
namespace Go.Proofs.YtldjiieckddhkaaGreatDoor
open Go.RowKit
set_option maxRecDepth 100000 in
set_option maxHeartbeats 1600000 in
theorem qWord_any (s : Bs) (w : World) : Calls Tryz.prog 134 #[.string ⟨s.toArray⟩] w fun e w' => e = .returned (.bool (wordB s)) ∧ w' = w := by
  match s with
  | [] =>
    go_enter Tryz.func134, Tryz.ntmps134
    go_wp2
    go_ret
    exact ⟨rfl, rfl⟩
  | c :: r =>
    have e2 : (⟨(c :: r).toArray⟩ : ByteArray).toList.isEmpty = false := by rw [nil_text]; rfl
    have hsz := list_size (c :: r)
    have HW : Hid (wordB (c :: r) = (decide (r.length + 1 ≤ 24) && (!isDig c && (c :: r).all capC))) := rfl
    have HX : Hid (∀ (i : Nat) (h : i < (c :: r).length), ∀ W : World, (Instr.index 9 (.string ⟨(c :: r).toArray⟩) (.int .i64 (i : Int))).run Tryz.prog W = .ok (.int .u8 ((c :: r)[i].toNat : Int)) W) := fun i h W => run_idx ⟨(c :: r).toArray⟩ i (c :: r)[i] (List.getElem?_eq_getElem h) W
    have x0 := HX.out 0 (by simp)
    simp only [List.getElem_cons_zero] at x0
    have x0' : ∀ W : World, (Instr.index 9 (.string ⟨(c :: r).toArray⟩) (.int .i64 0)).run Tryz.prog W = .ok (.int .u8 (c.toNat : Int)) W := x0
    have HD := hide (dig_int c)
    clear x0
    by_cases hl : 24 < (c :: r).length
    · have i1 : (24 : Int) < ((⟨(c :: r).toArray⟩ : ByteArray).size : Int) := by omega
      have HE : Hid (wordB (c :: r) = false) := by
        show _ = _
        rw [HW.out, decide_eq_false (by simp at hl; omega)]; rfl
      generalize (⟨(c :: r).toArray⟩ : ByteArray) = S at *
      clear hsz HX x0' hl
      go_enter Tryz.func134, Tryz.ntmps134
      go_wp2
      go_ret
      exact ⟨ret_bool HE.out.symm, rfl⟩
    · have i1 : ¬ (24 : Int) < ((⟨(c :: r).toArray⟩ : ByteArray).size : Int) := by omega
      have HT : Hid (decide (r.length + 1 ≤ 24) = true) := decide_eq_true (by simp at hl; omega)
      obtain ⟨N, hN⟩ : ∃ N, N = (c :: r).length := ⟨_, rfl⟩
      have HN := hide hN
      rw [← hN] at hsz hl
      have n1 : (N : Int) ≤ 24 := by omega
      generalize (⟨(c :: r).toArray⟩ : ByteArray) = S at *
      have HSZ := hide hsz
      obtain ⟨y, hy⟩ : ∃ y : Int, y = (c.toNat : Int) := ⟨_, rfl⟩
      rw [← hy] at x0' HD
      clear hy
      have KL : Hid (isDig c = false → ∀ (w1 : World), w1 = w → True) := fun _ _ _ => trivial
      cases hd : isDig c with
      | true =>
        have hh : (48 ≤ y) ∧ (y ≤ 57) := by
          have h := HD.out; rw [hd] at h; have h2 := h.symm; simpa using h2
        obtain ⟨ya, yb⟩ := hh
        have HE : Hid (wordB (c :: r) = false) := by
          show _ = _
          rw [HW.out, hd]; simp
        clear hsz HX hl hN HD
        go_enter Tryz.func134, Tryz.ntmps134
        go_wp2
        go_ret
        exact ⟨ret_bool HE.out.symm, rfl⟩
      | false =>
        have hh : ¬ ((48 ≤ y) ∧ (y ≤ 57)) := by
          have h := HD.out; rw [hd] at h; have h2 := h.symm; simpa using h2
        have HE : Hid (wordB (c :: r) = (c :: r).all capC) := by
          show _ = _
          rw [HW.out, HT.out, hd]; simp
        have hsz2 : (S.size : Int) = (N : Int) := by omega
        clear hl hN hsz HW HT HD KL
        have BODY : ∀ (v4 : Value), True := fun _ => trivial
        clear BODY
        by_cases ya : 48 ≤ y
        all_goals
          try have yb : ¬ y ≤ 57 := fun h => hh ⟨ya, h⟩
          clear hh
          go_enter Tryz.func134, Tryz.ntmps134
          go_wp2_with fail
          clear x0'
          go_loopw [3, 4] (fun i _ wr => ∃ k : Nat, k ≤ N ∧ i = .int .i64 (k : Int) ∧ Hid (((c :: r).take k).all capC = true ∧ wr = w)) (fun i _ _ => N - (intOf i).toNat)
          case atStart => exact ⟨0, by omega, rfl, rfl, rfl⟩
          case round =>
            obtain ⟨k, hk, rfl, hh⟩ := hrel
            obtain ⟨ha, hw⟩ := hh.out
            subst hw
            have HA := hide ha
            by_cases hlt : k < N
            · have j1 : (k : Int) < (N : Int) := by omega
              have hki : k < (c :: r).length := by rw [← HN.out]; exact hlt
              have xi := HX.out k hki
              obtain ⟨b, hb⟩ : ∃ b, b = (c :: r)[k] := ⟨_, rfl⟩
              rw [← hb] at xi
              have HS : Hid (capC b = true → ((c :: r).take (k + 1)).all capC = true) := fun h => by
                rw [List.take_add_one, List.all_append, HA.out, List.getElem?_eq_getElem hki, ← hb]
                simp [h]
              have HF : Hid (capC b = false → (c :: r).all capC = false) := fun h => by
                rw [List.all_eq_false]
                exact ⟨b, by rw [hb]; exact List.getElem_mem hki, by rw [h]; decide⟩
              have HC : Hid (capC b = ((((decide ((65 : Int) ≤ (b.toNat : Int)) && decide ((b.toNat : Int) ≤ 90)) || decide ((b.toNat : Int) = 95))) || (decide ((48 : Int) ≤ (b.toNat : Int)) && decide ((b.toNat : Int) ≤ 57)))) := by
                show _ = _
                rw [capC_eq, cap_int, dig_int]
              obtain ⟨z, hz⟩ : ∃ z : Int, z = (b.toNat : Int) := ⟨_, rfl⟩
              rw [← hz] at xi HC
              clear hb hki ha hh hz
              by_cases z1 : 65 ≤ z
              · by_cases z2 : z ≤ 90
                · have HR := hide (HS.out (by rw [HC.out]; simp [z1, z2]))
                  clear HS HF HC
                  go_wp2
                  go_roundw
                  case rel => exact ⟨k + 1, by omega, by go_num, HR.out, by trivial⟩
                  case measure => simp [intOf]; omega
                · have z3 : 48 ≤ z := by omega
                  have z4 : ¬ z ≤ 57 := by omega
                  by_cases z5 : z = 95
                  · have HR := hide (HS.out (by rw [HC.out]; simp [z5]))
                    subst z5
                    clear HS HF HC
                    go_wp2
                    go_roundw
                    case rel => exact ⟨k + 1, by omega, by go_num, HR.out, by trivial⟩
                    case measure => simp [intOf]; omega
                  · have z6 : (z == 95) = false := by rw [beq_eq_false_iff_ne]; exact z5
                    have HR := hide (HF.out (by rw [HC.out]; simp [z2, z4, z5]))
                    clear HS HF HC
                    go_wp2
                    go_ret
                    exact ⟨ret_bool (by rw [HE.out, HR.out]), rfl⟩
              · have z6 : (z == 95) = false := by rw [beq_eq_false_iff_ne]; omega
                have z7 : ¬ z = 95 := by omega
                by_cases z3 : 48 ≤ z
                · by_cases z4 : z ≤ 57
                  · have HR := hide (HS.out (by rw [HC.out]; simp [z3, z4]))
                    clear HS HF HC
                    go_wp2
                    go_roundw
                    case rel => exact ⟨k + 1, by omega, by go_num, HR.out, by trivial⟩
                    case measure => simp [intOf]; omega
                  · have HR := hide (HF.out (by rw [HC.out]; simp [z1, z4, z7]))
                    clear HS HF HC
                    go_wp2
                    go_ret
                    exact ⟨ret_bool (by rw [HE.out, HR.out]), rfl⟩
                · have HR := hide (HF.out (by rw [HC.out]; simp [z1, z3, z7]))
                  clear HS HF HC
                  go_wp2
                  go_ret
                  exact ⟨ret_bool (by rw [HE.out, HR.out]), rfl⟩
            · obtain rfl : k = N := by omega
              have HT2 : Hid ((c :: r).all capC = true) := by
                have h := HA.out
                rw [List.take_of_length_le (by rw [← HN.out]; exact Nat.le_refl _)] at h
                exact h
              clear hh ha HA
              go_wp2
              go_ret
              exact ⟨ret_bool (by rw [HE.out, HT2.out]), rfl⟩
end Go.Proofs.YtldjiieckddhkaaGreatDoor
namespace Go.Proofs.YtldjiieckddhkaaGreatDoor
open Go.RowKit
def kwObj : Obj := .cells kwTab.toArray 9
set_option maxRecDepth 100000 in
theorem qkeys_any (w : World) : Calls Tryz.prog 156 #[] w fun e w' => e = .returned (.slice (some ⟨w.heap.size, 0, none⟩) 51 51) ∧ w' = w.alloc kwObj := by
  go_enter Tryz.func156, Tryz.ntmps156
  go_wp2
  go_ret
  exact ⟨rfl, rfl⟩
theorem kw_cell (w : World) (i : Nat) (hi : i < 51) : (w.alloc kwObj).cell? ⟨w.heap.size, i, none⟩ = some (.string ⟨(kwB[i]'hi).toArray⟩) := by
  have e : kwTab.toArray[i]? = some (.string ⟨(kwB[i]'hi).toArray⟩) := by
    rw [List.getElem?_toArray, kwTab, List.getElem?_map, List.getElem?_eq_getElem (show i < kwB.length from hi)]; rfl
  simp [kwObj]
  rw [← List.getElem?_toArray]; exact e
set_option maxRecDepth 100000 in
set_option maxHeartbeats 1600000 in
theorem qName_any (s : Bs) (w : World) : Calls Tryz.prog 133 #[.string ⟨s.toArray⟩] w fun e w' => e = .returned (.bool (nameB s)) ∧ Below w.heap.size w w' := by
  have HN : Hid (nameB s = (!(kwB.contains s) && wordB s)) := rfl
  have c0 := qkeys_any w
  have c1 := fun W => qWord_any s W
  obtain ⟨S, hS⟩ : ∃ S : ByteArray, S = ⟨s.toArray⟩ := ⟨_, rfl⟩
  rw [← hS] at c1 ⊢
  have HS := hide hS
  clear hS
  go_enter Tryz.func133, Tryz.ntmps133
  go_wp2_with fail
  refine c0.mono ?_
  rintro e w1 ⟨rfl, hw1⟩
  have HB : Hid (Below w.heap.size w w1) := by show Below _ _ _; rw [hw1]; exact (Below.refl _ _).alloc (Nat.le_refl _) _
  have ix : Hid (∀ (k : Nat) (h : k < 51), w1.cell? ⟨w.heap.size, k, none⟩ = some (.string ⟨(kwB[k]'h).toArray⟩)) := by
    intro k h; rw [hw1]; exact kw_cell w k h
  clear hw1 c0
  generalize w.heap.size = B at ix ⊢
  go_wp2_with fail
  go_loop [4] (fun i => ∃ k : Nat, k ≤ 51 ∧ i = .int .i64 (k : Int) ∧ Hid ((kwB.take k).contains s = false)) (fun i => 51 - (intOf i).toNat)
  case atStart => exact ⟨0, by omega, rfl, rfl⟩
  case round =>
    obtain ⟨k, hk, rfl, hf⟩ := hrel
    by_cases hlt : k < 51
    · have x0 := ix.out k hlt
      have i1 : (k : Int) < 51 := by omega
      obtain ⟨g, hgk⟩ : ∃ g, g = kwB[k]'hlt := ⟨_, rfl⟩
      rw [← hgk] at x0
      have bt := beq_text ⟨g.toArray⟩ S
      have HM : Hid (g ∈ kwB) := by rw [hgk]; exact List.getElem_mem _
      have HTK : Hid (kwB.take (k + 1) = kwB.take k ++ [g]) := by
        show _ = _
        rw [List.take_add_one, List.getElem?_eq_getElem (show k < kwB.length from hlt), hgk]; rfl
      obtain ⟨u, HU⟩ : ∃ u : ByteArray, Hid ((⟨g.toArray⟩ : ByteArray) = u) := ⟨_, rfl⟩
      rw [HU.out] at x0 bt
      clear hgk ix
      by_cases he : u = S
      · have hb : (u.toList == S.toList) = true := by rw [bt]; exact decide_eq_true he
        have HE : Hid (nameB s = false) := by
          show _ = _
          have hgs : g = s := by
            have e : (⟨g.toArray⟩ : ByteArray) = ⟨s.toArray⟩ := by rw [HU.out, ← HS.out]; exact he
            simpa using congrArg (fun x : ByteArray => x.data.toList) e
          rw [HN.out, show kwB.contains s = true from by rw [List.contains_iff_mem, ← hgs]; exact HM.out]; rfl
        clear bt he c1 hf
        go_wp2
        go_ret
        exact ⟨ret_bool HE.out.symm, HB.out⟩
      · have hb : (u.toList == S.toList) = false := by rw [bt]; exact decide_eq_false he
        have HR : Hid ((kwB.take (k + 1)).contains s = false) := by
          show _ = _
          rw [HTK.out]
          have h1 := hf.out
          rw [Bool.eq_false_iff, Ne, List.contains_iff_mem] at h1 ⊢
          intro h
          rcases List.mem_append.1 h with h | h
          · exact h1 h
          · exact he (by rw [← HU.out, HS.out, List.mem_singleton.1 h])
        clear bt he c1 hf
        go_wp2
        go_round
        case rel => exact ⟨k + 1, by omega, by go_num, HR.out⟩
        case measure => simp [intOf]; omega
    · obtain rfl : k = 51 := by omega
      have HE : Hid (nameB s = wordB s) := by
        show _ = _
        have h := hf.out
        rw [List.take_of_length_le (show kwB.length ≤ 51 from Nat.le_refl _)] at h
        rw [HN.out, h]; rfl
      clear hf ix
      go_wp2_with fail
      refine (c1 _).mono ?_
      rintro e w2 ⟨rfl, hw2⟩
      subst hw2
      go_wp2
      go_ret
      exact ⟨ret_bool HE.out.symm, HB.out⟩
end Go.Proofs.YtldjiieckddhkaaGreatDoor
