/- QdW | QfW | DvW -/
import Derived.Test.YtldjiieckddhkaaGreatDoorCkW
import Derived.Test.YtldjiieckddhkaaGreatDoorMg19
import Derived.Test.YtldjiieckddhkaaGreatDoorMg34
import Derived.Test.YtldjiieckddhkaaGreatDoorMg2
import Derived.Test.YtldjiieckddhkaaGreatDoorMg1
import Derived.Test.YtldjiieckddhkaaGreatDoorMg11
namespace Go.Proofs.YtldjiieckddhkaaGreatDoor
open Go.RowKit
theorem deep_fold (l : List Nat) : ∀ m n, l.foldl (fun m d => max m (d + 1)) (max m n) = max m (l.foldl (fun m d => max m (d + 1)) n) := by
  induction l with
  | nil => intro m n; rfl
  | cons a l ih =>
    intro m n
    show l.foldl _ (max (max m n) (a + 1)) = max m (l.foldl _ (max n (a + 1)))
    rw [Nat.max_assoc, ih]
theorem deep_cons (a : Nat) (l : List Nat) : deep (a :: l) = max (a + 1) (deep l) := by
  show l.foldl _ (max 1 (a + 1)) = max (a + 1) (l.foldl _ 1)
  rw [Nat.max_comm, deep_fold]
theorem deep_drop (ds : List Nat) (i d : Nat) (h : ds[i]? = some d) : deep (ds.drop i) = max (d + 1) (deep (ds.drop (i + 1))) := by
  obtain ⟨hi, he⟩ := List.getElem?_eq_some_iff.1 h
  rw [List.drop_eq_getElem_cons hi, he, deep_cons]
theorem run_append_nil3 (ty : Nat) (v : Value) (hv : ∃ a n cap, v = .slice a n cap ∧ n ≤ cap) (c : Nat) (W : World) : (Builtin.append_ #[73, 73] ty #[v, .slice none 0 c]).run Tryz.prog W = .ok v W := by
  obtain ⟨a, n, cap, rfl, hn⟩ := hv
  cases a <;> simp [Builtin.append_, go_sem, hn]
theorem intC_length (l : List Nat) : (intC l).length = l.length := by rw [intC, List.length_map]
theorem run_append_ints (w : World) (base ty n : Nat) (v : Value) (xs : List Value) (hown : w.ownsRow base 3 1 v n xs) (base2 : Nat) (u : Value) (l : List Nat) (hu : w.ownsRow base2 3 1 u l.length (intC l)) (hbytes : n + l.length ≤ 1000000000000) (hbase : base ≤ w.heap.size) :
    ∃ v' w', (Builtin.append_ #[73, 73] ty #[v, u]).run Tryz.prog w = .ok v' w' ∧ w'.ownsRow base 3 1 v' (n + l.length) (xs ++ intC l) ∧ w.grownBy w' v.ownBlock := by
  obtain ⟨i0, hi, hz0, hz1, hz2⟩ := info_parts in3
  rcases hu.2 with ⟨h1, h2⟩ | ⟨g, cap, cur, h1, _, _, h4, _⟩
  · subst h1
    have hl : l = [] := List.eq_nil_of_length_eq_zero h2
    subst hl
    obtain ⟨a, c, hv, hn⟩ := own_form3 hown
    refine ⟨v, w, run_append_nil3 ty v ⟨_, _, _, hv, hn⟩ 0 w, ?_, ⟨rfl, rfl, rfl, Nat.le_refl _, fun _ _ _ => rfl⟩⟩
    show w.ownsRow base 3 1 v n (xs ++ [])
    rw [List.append_nil]; exact hown
  · subst h1
    have hcl := hu.cellAt
    obtain ⟨v', w', hr, h2, h3, h4, _⟩ := run_append_own_at (P := Tryz.prog) w base 73 ty 3 i0 _ 1 8 Tryz.underlying73 hi hz0 hz1 hz2 rfl (by omega) _ n xs hown ⟨g, 0, none⟩ l.length cap (intC l) (by rw [intC_length]; omega) (fun j x hx => by
      have hj : j < l.length := by have := (List.getElem?_eq_some_iff.1 hx).1; rwa [intC_length] at this
      rw [show (⟨g, 0, none⟩ : Addr).add j = ⟨g, j, none⟩ from by simp [Addr.add]; exact Eq.symm, hcl j (by omega), hx]) (fun x hx => by
      obtain ⟨d, _, rfl⟩ := List.mem_map.1 hx; rfl) (by unfold maxLen; omega) (by omega) hbase
    exact ⟨v', w', hr, h2, h3⟩
theorem wpList_append_ints {w : World} {ops : Array Oper} {rest : List Oper} {o : Oper} {a : Act} {Q : Exit → Act → World → Prop} (hgd : Region.wanted o (yielded ops a.tmps) = true) (s x : Operand)
    (ho : o.op = .call { callee := .builtin .append, args := #[s, x], argTypes := #[73, 73] })
    (base n : Nat) (v : Value) (xs : List Value) (hs : a.eval s = v) (hown : w.ownsRow base 3 1 v n xs) (base2 : Nat) (u : Value) (l : List Nat) (hx : a.eval x = u) (hL : w.ownsRow base2 3 1 u l.length (intC l)) (hbytes : n + l.length ≤ 1000000000000) (hbase : base ≤ w.heap.size)
    (h : ∀ v' w', w'.ownsRow base 3 1 v' (n + l.length) (xs ++ intC l) → w.grownBy w' v.ownBlock → wpList Tryz.prog ops Q rest (a.put o.dst v') w') : wpList Tryz.prog ops Q (o :: rest) a w := by
  refine wpList_step fun K hK => ?_
  rw [if_pos hgd]
  obtain ⟨v', w', hr, h2, h3⟩ := run_append_ints w base o.type n v xs hown base2 u l hL hbytes hbase
  unfold Oper.wp execOp
  simp only [ho, resolve, invoke, builtin, Sem.run_bind, Sem.run_pure, Result.andThen_ok, List.map_toArray, List.map_cons, List.map_nil, hs, hx, hr]
  exact hK _ _ (h v' w' h2 h3)
set_option maxRecDepth 100000 in
theorem cut_ints {w : World} {base : Nat} {a : Option Addr} {n cap : Nat} {xs : List Value} (h : w.ownsRow base 3 1 (.slice a n cap) n xs) (k : Nat) (hk : k ≤ n) (hn : n ≤ 1000000) (W : World) : (Instr.slice 73 (.slice a n cap) none (some (.int .i64 (k : Int))) none).run Tryz.prog W = .ok (.slice a k cap) W := by
  rcases h.2 with ⟨h1, h2⟩ | ⟨g, cap', cur, h1, r2, r3, r4, r5, r6, r7⟩
  · injection h1 with e1 e2 e3
    subst e1 e3
    obtain rfl : k = 0 := by omega
    obtain rfl : n = 0 := h2
    simp [go_sem]
  · injection h1 with e1 e2 e3
    subst e1 e3
    have i1 : (k : Int) ≤ (cap : Int) := by omega
    simp [go_sem, i1]
set_option maxRecDepth 100000 in
set_option maxHeartbeats 3200000 in
theorem qDepth_any (v : Value) (x : List Pv) (w : World) (hL : PLst w v x) (hlen : x.length ≤ 500) : Calls Tryz.prog 99 #[v] w fun e w' => e = .returned (.int .i64 ((depth (x.map ptV) : Nat) : Int)) ∧ Below w.heap.size w w' := by
  obtain ⟨a, b, off, cap, rfl, hA, hI⟩ := hL
  have HA := hide hA
  have HI := hide hI
  obtain ⟨N, hN⟩ : ∃ N, N = x.length := ⟨_, rfl⟩
  have HN := hide hN
  rw [← hN] at hlen ⊢
  have n5 : (N : Int) ≤ 500 := by omega
  have n0 : (0 : Int) ≤ (N : Int) := by omega
  obtain ⟨i0, hi, hz0, hz1, hz2⟩ := info_parts in3
  clear hN hA hI
  go_enter Tryz.func99, Tryz.ntmps99
  go_wp2_with fail
  go_loopw [3, 4, 5, 6, 7] (fun dv i _ _ _ wr => ∃ (k : Nat) (ds : List Nat) (dv' : Value), k ≤ N ∧ i = .int .i64 (k : Int) ∧ dv' = dv ∧ Hid (wr.ownsRow w.heap.size 3 1 dv' ds.length (intC ds) ∧ ds.length ≤ k ∧ depths ((x.map ptV).take k) [] = some ds.reverse ∧ (∀ d ∈ ds, 1 ≤ d ∧ d ≤ k) ∧ Below w.heap.size w wr)) (fun _ i _ _ _ _ => N - (intOf i).toNat)
  case atStart => exact ⟨0, [], .slice none 0 0, by omega, rfl, rfl, World.ownsRow_nil _ _ _ _, Nat.le_refl _, rfl, fun d hd => (by cases hd), Below.refl _ _⟩
  case round =>
    obtain ⟨k, ds, dv, hk, rfl, rfl, hh⟩ := hrel
    have O := hide hh.out.1
    have HD := hide hh.out.2.2.1
    have HS := hide hh.out.2.2.2.1
    have HB := hide hh.out.2.2.2.2
    have hdl := hh.out.2.1
    obtain ⟨da, dcap, hdv, hdc⟩ := own_form3 O.out
    subst hdv
    clear hh
    by_cases hlt : k < N
    · have j1 : (k : Int) < (N : Int) := by omega
      have j0 : (0 : Int) ≤ (k : Int) := by omega
      obtain ⟨y, hy⟩ : ∃ y, x[k]? = some y := ⟨_, List.getElem?_eq_getElem (by rw [← HN.out]; exact hlt)⟩
      have HY : Hid ((x.map ptV)[k]? = some (ptV y)) := by show _ = _; rw [List.getElem?_map, hy]; rfl
      obtain ⟨hbw, rfl⟩ := HA.out (by rw [← HN.out]; omega)
      obtain ⟨q0, q1, q2, q3, q4⟩ := HI.out k y hy
      have c0 := (HB.out.cell (p := ⟨b, off + k * 5, none⟩) hbw).trans q0
      have c1 := (HB.out.cell (p := ⟨b, off + k * 5 + 1, none⟩) hbw).trans q1
      have c2 := (HB.out.cell (p := ⟨b, off + k * 5 + 2, none⟩) hbw).trans q2
      have c3 := (HB.out.cell (p := ⟨b, off + k * 5 + 3, none⟩) hbw).trans q3
      have c4 := (HB.out.cell (p := ⟨b, off + k * 5 + 4, none⟩) hbw).trans q4
      clear q0 q1 q2 q3 q4 hy
      have m1 := fun W => qTakes_v y W
      have htk := takes_le (ptV y)
      go_wp2_with fail
      refine (m1 _).mono ?_
      rintro e w1 ⟨rfl, hb1⟩
      have bb1 := HB.out.trans (hb1.mono HB.out.size)
      have O3 := hide (own_on O.out hb1)
      have BB2 := hide bb1
      obtain ⟨tk, htk2⟩ : ∃ tk, tk = takes (ptV y) := ⟨_, rfl⟩
      have HTK := hide htk2
      rw [← htk2] at htk ⊢
      have dl : (ds.length : Int) ≤ 500 := by omega
      have tl : (tk : Int) ≤ 2 := by omega
      clear c0 c1 c2 c3 c4 m1 hb1 bb1 htk2 O
      by_cases hf : ds.length < tk
      · have HE : Hid (depth (x.map ptV) = 0) := depth_lack HY.out HD.out (by unfold stepD; rw [if_pos (by rw [← HTK.out]; exact hf)])
        have i3 : (ds.length : Int) < (tk : Int) := by omega
        clear hf
        generalize ds.length = L at *
        go_wp2
        go_ret
        exact ⟨by rw [HE.out]; rfl, BB2.out⟩
      · have i3 : ¬ (ds.length : Int) < (tk : Int) := by omega
        obtain ⟨F, hF⟩ : ∃ F, F = ds.length - tk := ⟨_, rfl⟩
        have hF2 : (ds.length : Int) - (tk : Int) = (F : Int) := by omega
        have HSt : Hid (stepD (ptV y) ds = some (ds.take F ++ [deep (ds.drop F)])) := by
          show _ = _
          unfold stepD
          rw [if_neg (by rw [← HTK.out]; exact hf), ← HTK.out, ← hF]
        have hFl : F ≤ ds.length := by omega
        have i4 : (0 : Int) ≤ (F : Int) := by omega
        obtain ⟨L, hLL⟩ : ∃ L, L = ds.length := ⟨_, rfl⟩
        have HLL := hide hLL
        rw [← hLL] at hdl hdc dl hF2 hFl hF O3 i3 ⊢
        have HF := hide hF
        have htL : tk ≤ L := by omega
        clear hf hF hLL
        have HDLE : Hid (∀ l : List Nat, (∀ d ∈ l, d ∈ ds) → deep l ≤ k + 1) := fun l hl => deep_le l k (fun d hd => (HS.out d (hl d hd)).2)
        have HCUT := cut_ints O3.out F hFl (by omega)
        go_wp2_with fail
        go_loopw [6, 7] (fun dp i wx => ∃ (j m : Nat), j ≤ tk ∧ i = .int .i64 (j : Int) ∧ dp = .int .i64 (m : Int) ∧ Hid (m + 1 = deep (ds.drop (L - j)) ∧ wx = w1)) (fun _ i _ => tk - (intOf i).toNat)
        case atStart => exact ⟨0, 0, by omega, rfl, rfl, by rw [Nat.sub_zero, HLL.out, List.drop_length]; rfl, rfl⟩
        case round =>
          obtain ⟨j, m, hj, rfl, rfl, hh⟩ := hrel
          obtain ⟨hm, hwx⟩ := hh.out
          subst hwx
          have hm25 : m + 1 ≤ k + 1 := by rw [hm]; exact HDLE.out _ (fun d hd => List.mem_of_mem_drop hd)
          have HDj := hide hm
          clear hh hm
          by_cases hlt2 : j < tk
          · have j2 : (j : Int) < (tk : Int) := by omega
            obtain ⟨I, hI⟩ : ∃ I, I = L - 1 - j := ⟨_, rfl⟩
            have hI1 : (L : Int) - 1 - (j : Int) = (I : Int) := by omega
            have hI2 : I < L := by omega
            have hI3 : (I : Int) < (L : Int) := by omega
            have hI4 : (0 : Int) ≤ (I : Int) := by omega
            obtain ⟨d, hd⟩ : ∃ d, ds[I]? = some d := ⟨_, List.getElem?_eq_getElem (by rw [← HLL.out]; exact hI2)⟩
            obtain ⟨g, hg⟩ : ∃ g, da = some ⟨g, 0, none⟩ := by
              rcases O3.out.2 with ⟨_, h0⟩ | ⟨g, _, _, h1, _⟩
              · omega
              · injection h1 with e1 e2 e3; exact ⟨g, e1⟩
            subst hg
            have hd2 : wr.cell? ⟨g, I, none⟩ = some (.int .i64 (d : Int)) := by
              rw [O3.out.cellAt I (by omega), intC, List.getElem?_map, hd]; rfl
            have HDn : Hid (max m d + 1 = deep (ds.drop (L - (j + 1)))) := by
              show _ = _
              rw [show L - (j + 1) = I from by omega, deep_drop ds I d hd, show I + 1 = L - j from by omega, ← HDj.out]
              omega
            have hd24 : d ≤ k := (HS.out d (List.mem_of_getElem? hd)).2
            have d5 : (d : Int) ≤ 500 := by omega
            have d6 : (0 : Int) ≤ (d : Int) := by omega
            have m5 : (m : Int) ≤ 500 := by omega
            clear hd hI
            go_wp2
            go_roundw
            case rel => exact ⟨j + 1, max m d, by omega, by go_num, by first | rfl | (congr 1; omega) | rw [show (if m < d then (d : Int) else (m : Int)) = ((max m d : Nat) : Int) from by split <;> omega], HDn.out, trivial⟩
            case measure => simp [intOf]; omega
          · have j2 : ¬ (j : Int) < (tk : Int) := by omega
            have HDm : Hid (m + 1 = deep (ds.drop F)) := by
              show _ = _
              rw [HDj.out, HF.out, show j = tk from by omega]
            clear HDj
            have zz := BB2.out.size
            have HST := hide (World.ownsRow_made (e := 3) (size := 1) wr #[] 0 zz (by unfold maxLen; omega) rfl)
            have HU := hide ((own_take O3.out F hFl).alloc (.cells #[] 3))
            have HTL : Hid ((ds.take F).length = F) := by show _ = _; rw [List.length_take, ← HLL.out, Nat.min_eq_left hFl]
            have B4 := hide (BB2.out.alloc zz (.cells #[] 3))
            have HNS : Hid (∀ d ∈ ds.take F ++ [m + 1], 1 ≤ d ∧ d ≤ k + 1) := fun d hd => by
              rcases List.mem_append.1 hd with h | h
              · exact ⟨(HS.out d (List.mem_of_mem_take h)).1, Nat.le_succ_of_le (HS.out d (List.mem_of_mem_take h)).2⟩
              · rw [List.mem_singleton.1 h]
                exact ⟨by omega, hm25⟩
            have HND : Hid (depths ((x.map ptV).take (k + 1)) [] = some (ds.take F ++ [m + 1]).reverse) := by
              show _ = _
              rw [List.take_add_one, HY.out, depths_app, HD.out]
              show depths [ptV y] ds.reverse = _
              rw [depths_step, HSt.out, ← HDm.out]
              rfl
            have HFL : Hid ((ds.take F ++ [m + 1]).length = F + 1) := by
              show _ = _
              rw [List.length_append, HTL.out]; rfl
            have HFK : Hid (F + 1 ≤ k + 1) := by show _ ≤ _; omega
            have m5 : (m : Int) ≤ 500 := by omega
            clear HD
            go_wp2_with (at_builtin; go_must (first
              | (refine wpList_append_ints (by rfl) _ _ (by rfl) w.heap.size 0 (.slice (some ⟨wr.heap.size, 0, none⟩) 0 0) [] (by rfl) HST.out w.heap.size (.slice da F dcap) (ds.take F) (by rfl) (by rw [HTL.out]; exact HU.out) (by rw [HTL.out]; omega) B4.out.size ?_; intro v5 w5 hown5 hgrow5; have O5 := hide hown5; have B5 := hide (B4.out.grown hgrow5 B4.out.size (fun r hr => (HST.out.lt r hr).1)); clear hown5 hgrow5)
              | (refine wpList_append_own _ (by rfl) _ _ 73 (by rfl) w.heap.size 3 i0 (.int .i64 0) 1 8 Tryz.underlying73 hi hz0 hz1 hz2 rfl (by decide) v5 _ _ (by rfl) (O5.out.alloc _) ⟨w5.heap.size, 0, none⟩ 1 1 [.int .i64 ((m : Int) + 1)] (by rfl) (by rfl) (one_cell w5 ((m : Int) + 1)) (by intro u hu; simp at hu; subst hu; rfl) (by unfold maxLen; rw [HTL.out]; omega) (by rw [HTL.out]; omega) (by rw [World.size_alloc]; have := B5.out.size; omega) ?_; intro dv3 w3 hown3 hgrow3 _)))
            have B3 := hide ((B5.out.alloc B5.out.size _).grown hgrow3 (by rw [World.size_alloc]; have := B5.out.size; omega) (fun r hr => (O5.out.lt r hr).1))
            have O6 : Hid (w3.ownsRow w.heap.size 3 1 dv3 (ds.take F ++ [m + 1]).length (intC (ds.take F ++ [m + 1]))) := by
              show World.ownsRow _ _ _ _ _ _ _
              rw [HFL.out]
              rw [show intC (ds.take F ++ [m + 1]) = [] ++ intC (ds.take F) ++ [.int .i64 ((m : Int) + 1)] from by simp [intC]]
              have h := hown3
              rw [HTL.out, Nat.zero_add] at h
              exact h
            clear hown3 hgrow3
            go_wp2
            go_roundw
            case rel => exact ⟨k + 1, ds.take F ++ [m + 1], dv3, by omega, by go_num, rfl, O6.out, by rw [HFL.out]; exact HFK.out, HND.out, HNS.out, B3.out⟩
            case measure => simp [intOf]; omega
    · obtain rfl : k = N := by omega
      have htk : (x.map ptV).take k = x.map ptV := List.take_of_length_le (by rw [List.length_map, ← HN.out]; exact Nat.le_refl _)
      have hd := HD.out
      rw [htk] at hd
      have dl : (ds.length : Int) ≤ 500 := by omega
      by_cases h1 : ds.length = 1
      · match ds, h1 with
        | [d0], _ =>
          have HE : Hid (depth (x.map ptV) = d0) := depth_good hd
          obtain ⟨g, dcap', cur, hsv, hgb, hgh, hgc, _, hgs, hgt⟩ : ∃ g c' cur, (Value.slice da [d0].length dcap) = .slice (some ⟨g, 0, none⟩) 1 c' ∧ _ := by
            rcases O.out.2 with ⟨_, h0⟩ | h
            · exact absurd h0 Nat.one_ne_zero
            · exact h
          injection hsv with e1 e2 e3
          subst e1 e3
          have c9 : wr.cell? ⟨g, 0, none⟩ = some (.int .i64 (d0 : Int)) := by
            rw [O.out.cellAt 0 Nat.one_pos]; rfl
          clear htk hd HD HS O hgb hgh hgs hgt
          go_wp2
          go_ret
          exact ⟨by rw [HE.out]; rfl, HB.out⟩
      · have HE : Hid (depth (x.map ptV) = 0) := depth_one hd h1
        have i1 : ((ds.length : Int) == 1) = false := by rw [beq_eq_false_iff_ne]; omega
        clear htk hd HD HS O h1
        generalize ds.length = L at *
        go_wp2
        go_ret
        exact ⟨by rw [HE.out]; rfl, HB.out⟩
end Go.Proofs.YtldjiieckddhkaaGreatDoor
namespace Go.Proofs.YtldjiieckddhkaaGreatDoor
open Go.RowKit
theorem qtype_any (t : Int) (w : World) : Calls Tryz.prog 126 #[.int .i64 t] w fun e w' => e = .returned (.bool (decide (1 ≤ t) && decide (t ≤ 4))) ∧ w' = w := by
  by_cases h1 : 1 ≤ t
  · rw [decide_eq_true h1]
    go_enter Tryz.func126, Tryz.ntmps126
    go_wp2
    go_ret
    exact ⟨rfl, rfl⟩
  · rw [decide_eq_false h1]
    go_enter Tryz.func126, Tryz.ntmps126
    go_wp2
    go_ret
    exact ⟨rfl, rfl⟩
theorem qsize_any (t : Int) (w : World) : Calls Tryz.prog 127 #[.int .i64 t] w fun e w' => e = .returned (.int .i64 (if t = 2 then 65536 else 4294967296)) ∧ w' = w := by
  by_cases h : t = 2
  · subst h
    go_enter Tryz.func127, Tryz.ntmps127
    go_wp2
    go_ret
    exact ⟨rfl, rfl⟩
  · rw [if_neg h]
    have e : (t == 2) = false := by rw [beq_eq_false_iff_ne]; exact h
    go_enter Tryz.func127, Tryz.ntmps127
    go_wp2
    go_ret
    exact ⟨rfl, rfl⟩
set_option maxRecDepth 100000 in
theorem qfits_two (t n : Int) (ht1 : t ≠ 1) (ht2 : t = 2) (w : World) : Calls Tryz.prog 89 #[.int .i64 t, .int .i64 n] w fun e w' => e = .returned (.bool ((decide (1 ≤ t) && decide (t ≤ 4)) && (decide (-32768 ≤ n) && decide (n < 32768)))) ∧ w' = w := by
  have ct := fun W => qtype_any t W
  have cs := fun W => qsize_any t W
  rw [if_pos ht2] at cs
  have et : (t == 1) = false := by rw [beq_eq_false_iff_ne]; exact ht1
  clear ht2
  cases hT : (decide (1 ≤ t) && decide (t ≤ 4)) with
  | false =>
    rw [hT] at ct
    go_enter Tryz.func89, Tryz.ntmps89
    go_wp2_with fail
    refine (ct _).mono ?_
    rintro e w1 ⟨rfl, rfl⟩
    go_wp2
    go_ret
    exact ⟨rfl, rfl⟩
  | true =>
    rw [hT] at ct
    by_cases ha : -32768 ≤ n
    · rw [decide_eq_true ha]
      go_enter Tryz.func89, Tryz.ntmps89
      go_wp2_with fail
      refine (ct _).mono ?_
      rintro e w1 ⟨rfl, rfl⟩
      go_wp2_with fail
      refine (cs _).mono ?_
      rintro e w1 ⟨rfl, rfl⟩
      go_wp2_with fail
      refine (cs _).mono ?_
      rintro e w1 ⟨rfl, rfl⟩
      go_wp2
      go_ret
      exact ⟨rfl, rfl⟩
    · rw [decide_eq_false ha]
      go_enter Tryz.func89, Tryz.ntmps89
      go_wp2_with fail
      refine (ct _).mono ?_
      rintro e w1 ⟨rfl, rfl⟩
      go_wp2_with fail
      refine (cs _).mono ?_
      rintro e w1 ⟨rfl, rfl⟩
      go_wp2
      go_ret
      exact ⟨rfl, rfl⟩
set_option maxRecDepth 100000 in
theorem qfits_more (t n : Int) (ht1 : t ≠ 1) (ht2 : t ≠ 2) (w : World) : Calls Tryz.prog 89 #[.int .i64 t, .int .i64 n] w fun e w' => e = .returned (.bool ((decide (1 ≤ t) && decide (t ≤ 4)) && (decide (-2147483648 ≤ n) && decide (n < 2147483648)))) ∧ w' = w := by
  have ct := fun W => qtype_any t W
  have cs := fun W => qsize_any t W
  rw [if_neg ht2] at cs
  have et : (t == 1) = false := by rw [beq_eq_false_iff_ne]; exact ht1
  clear ht2
  cases hT : (decide (1 ≤ t) && decide (t ≤ 4)) with
  | false =>
    rw [hT] at ct
    go_enter Tryz.func89, Tryz.ntmps89
    go_wp2_with fail
    refine (ct _).mono ?_
    rintro e w1 ⟨rfl, rfl⟩
    go_wp2
    go_ret
    exact ⟨rfl, rfl⟩
  | true =>
    rw [hT] at ct
    by_cases ha : -2147483648 ≤ n
    · rw [decide_eq_true ha]
      go_enter Tryz.func89, Tryz.ntmps89
      go_wp2_with fail
      refine (ct _).mono ?_
      rintro e w1 ⟨rfl, rfl⟩
      go_wp2_with fail
      refine (cs _).mono ?_
      rintro e w1 ⟨rfl, rfl⟩
      go_wp2_with fail
      refine (cs _).mono ?_
      rintro e w1 ⟨rfl, rfl⟩
      go_wp2
      go_ret
      exact ⟨rfl, rfl⟩
    · rw [decide_eq_false ha]
      go_enter Tryz.func89, Tryz.ntmps89
      go_wp2_with fail
      refine (ct _).mono ?_
      rintro e w1 ⟨rfl, rfl⟩
      go_wp2_with fail
      refine (cs _).mono ?_
      rintro e w1 ⟨rfl, rfl⟩
      go_wp2
      go_ret
      exact ⟨rfl, rfl⟩
set_option maxRecDepth 100000 in
theorem qfits_any (t n : Int) (w : World) : Calls Tryz.prog 89 #[.int .i64 t, .int .i64 n] w fun e w' => e = .returned (.bool (fit6 t n)) ∧ w' = w := by
  by_cases h1 : t = 1
  · subst h1
    have HR : Hid (fit6 1 n = (decide (n = 0) || decide (n = 1))) := rfl
    by_cases h0 : n = 0
    · subst h0
      go_enter Tryz.func89, Tryz.ntmps89
      go_wp2
      go_ret
      exact ⟨rfl, rfl⟩
    · have e0 : (n == 0) = false := by rw [beq_eq_false_iff_ne]; exact h0
      by_cases h1 : n = 1
      · subst h1
        go_enter Tryz.func89, Tryz.ntmps89
        go_wp2
        go_ret
        exact ⟨rfl, rfl⟩
      · have e1 : (n == 1) = false := by rw [beq_eq_false_iff_ne]; exact h1
        rw [HR.out, decide_eq_false h0, decide_eq_false h1]
        clear HR
        go_enter Tryz.func89, Tryz.ntmps89
        go_wp2
        go_ret
        exact ⟨rfl, rfl⟩
  by_cases h2 : t = 2
  · subst h2
    refine (qfits_two 2 n (by decide) rfl w).mono ?_
    rintro e w' ⟨rfl, rfl⟩
    refine ⟨?_, rfl⟩
    show _ = Ending.returned (.bool (decide (-32768 ≤ n) && decide (n ≤ 32767)))
    rw [show decide (n ≤ 32767) = decide (n < 32768) from by rw [decide_eq_decide]; omega]
    rfl
  refine (qfits_more t n h1 h2 w).mono ?_
  rintro e w' ⟨rfl, rfl⟩
  refine ⟨?_, rfl⟩
  rw [fit6, if_neg h1, if_neg h2]
  by_cases h3 : t = 3 ∨ t = 4
  · rw [if_pos h3, show decide (n ≤ 2147483647) = decide (n < 2147483648) from by rw [decide_eq_decide]; omega, decide_eq_true (show 1 ≤ t by omega), decide_eq_true (show t ≤ 4 by omega)]
    rfl
  · rw [if_neg h3]
    rw [show (decide (1 ≤ t) && decide (t ≤ 4)) = false from by rw [Bool.eq_false_iff]; simp; omega]
    rfl
end Go.Proofs.YtldjiieckddhkaaGreatDoor
namespace Go.Proofs.YtldjiieckddhkaaGreatDoor
open Go.RowKit
def NLst (w : World) (v : Value) (l : List Int) : Prop :=
  ∃ (a : Option Addr) (b off cap : Nat), v = .slice a l.length cap ∧ (0 < l.length → (∃ cs fr, w.heap[b]? = some (.cells cs 2 fr)) ∧ a = some ⟨b, off, none⟩) ∧ ∀ i n, l[i]? = some n → w.cell? ⟨b, off + i, none⟩ = some (.int .i64 n)
theorem NLst.below {w w' : World} {v : Value} {l : List Int} {B : Nat} (h : NLst w v l) (hb : Below B w w') (hB : w.heap.size ≤ B) : NLst w' v l := by
  obtain ⟨a, b, off, cap, rfl, hA, hI⟩ := h
  have hlt : 0 < l.length → b < B := fun h0 => by
    obtain ⟨⟨cs, fr, h⟩, -⟩ := hA h0
    exact Nat.lt_of_lt_of_le (Array.getElem?_eq_some_iff.1 h).1 hB
  refine ⟨a, b, off, cap, rfl, fun h0 => ⟨?_, (hA h0).2⟩, fun i n hn => ?_⟩
  · obtain ⟨⟨cs, fr, h⟩, -⟩ := hA h0
    exact ⟨cs, fr, (hb.block b (hlt h0)).trans h⟩
  have h0 : 0 < l.length := by have := (List.getElem?_eq_some_iff.1 hn).1; omega
  rw [hb.cell (p := ⟨b, off + i, none⟩) (hlt h0)]
  exact hI i n hn
theorem NLst.nil (w : World) : NLst w (.slice none 0 0) [] := ⟨none, 0, 0, 0, rfl, fun h => absurd h (Nat.lt_irrefl 0), fun i n h => by cases h⟩
def i64C (l : List Int) : List Value := l.map (fun n => .int .i64 n)
theorem i64C_length (l : List Int) : (i64C l).length = l.length := by rw [i64C, List.length_map]
theorem NLst.of_owns {w : World} {base : Nat} {v : Value} {l : List Int} (h : w.ownsRow base 2 1 v l.length (i64C l)) : NLst w v l := by
  rcases h.2 with ⟨rfl, h0⟩ | ⟨g, cap, cur, rfl, hb, hg, hn, hm, hc, ht⟩
  · have : l = [] := List.eq_nil_of_length_eq_zero h0
    subst this
    exact NLst.nil w
  · refine ⟨some ⟨g, 0, none⟩, g, 0, cap, rfl, fun _ => ⟨⟨_, _, hg⟩, rfl⟩, fun i n hx => ?_⟩
    have hi := (List.getElem?_eq_some_iff.1 hx).1
    rw [Nat.zero_add, h.cellAt i (by omega)]
    show (i64C l)[i]? = _
    rw [i64C, List.getElem?_map, hx]; rfl
set_option maxRecDepth 100000 in
theorem whole_any (t : Int) (w : World) : Calls Tryz.prog 47 #[.int .i64 t] w fun e w' => e = .returned (.bool (wholeB t)) ∧ w' = w := by
  unfold wholeB
  by_cases h2 : t = 2
  · subst h2
    go_enter Tryz.func47, Tryz.ntmps47
    go_wp2
    go_ret
    exact ⟨rfl, rfl⟩
  · by_cases h3 : t = 3
    · subst h3
      go_enter Tryz.func47, Tryz.ntmps47
      go_wp2
      go_ret
      exact ⟨rfl, rfl⟩
    · go_enter Tryz.func47, Tryz.ntmps47
      go_wp2
      go_ret
      exact ⟨by simp [h2, h3], rfl⟩
theorem fitN_take {l : List Int} {k : Nat} {n t : Int} (h : l[k]? = some n) : fitN (l.take (k + 1)) t = (fitN (l.take k) t && fit6 t n) := by
  rw [List.take_add_one, h]
  show fitN (l.take k ++ [n]) t = _
  rw [fitN_app]
  show (_ && ([n] : List Int).all (fit6 t)) = _
  simp
theorem fitN_no {l : List Int} {k : Nat} {t : Int} (h : fitN (l.take k) t = false) : fitN l t = false := by
  rw [← List.take_append_drop k l, fitN_app, h]; rfl
set_option maxRecDepth 100000 in
set_option maxHeartbeats 1600000 in
theorem fit_any (v : Value) (l : List Int) (t : Int) (w : World) (hL : NLst w v l) (hl : l.length ≤ 1000) : Calls Tryz.prog 48 #[v, .int .i64 t] w fun e w' => e = .returned (.bool (fitN l t)) ∧ w' = w := by
  obtain ⟨a, b, off, cap, rfl, hA, hI⟩ := hL
  have HI := hide hI
  have HA := hide hA
  have HF := hide (rfl : fitN l t = fitN l t)
  obtain ⟨N, hN⟩ : ∃ N, N = l.length := ⟨_, rfl⟩
  have HN := hide hN
  rw [← hN] at hl ⊢
  obtain ⟨R, hR⟩ : ∃ R, R = fitN l t := ⟨_, rfl⟩
  have HR := hide hR
  rw [← hR]
  have n5 : (N : Int) ≤ 1000 := by omega
  clear hA hI hN hR
  go_enter Tryz.func48, Tryz.ntmps48
  go_wp2_with fail
  go_loop [5] (fun i => ∃ k : Nat, k ≤ N ∧ i = .int .i64 (k : Int) ∧ Hid (fitN (l.take k) t = true)) (fun i => N - (intOf i).toNat)
  case atStart => exact ⟨0, by omega, rfl, by show _ = _; rw [List.take_zero]; rfl⟩
  case round =>
    obtain ⟨k, hk, rfl, hT⟩ := hrel
    by_cases hlt : k < N
    · have k1 : (k : Int) < (N : Int) := by omega
      have k0 : (0 : Int) ≤ (k : Int) := by omega
      obtain ⟨n, hn⟩ : ∃ n, l[k]? = some n := ⟨_, List.getElem?_eq_getElem (by rw [← HN.out]; omega)⟩
      obtain ⟨-, rfl⟩ := HA.out (by rw [← HN.out]; omega)
      have c0 := HI.out k n hn
      have HS := hide (fitN_take (t := t) hn)
      have m1 := fun W => qfits_any t n W
      clear hn
      cases hf : fit6 t n
      · rw [hf] at m1
        have HE : Hid (R = false) := by show _ = _; rw [HR.out]; exact fitN_no (k := k + 1) (by rw [HS.out, hf, Bool.and_false])
        clear hf
        go_wp2_with (go_at_call 89; refine (m1 _).mono ?_; rintro e w' ⟨rfl, rfl⟩)
        go_ret
        exact ⟨by rw [HE.out]; rfl, rfl⟩
      · rw [hf] at m1
        have HT2 : Hid (fitN (l.take (k + 1)) t = true) := by show _ = _; rw [HS.out, hT.out, hf]; rfl
        clear hf
        go_wp2_with (go_at_call 89; refine (m1 _).mono ?_; rintro e w' ⟨rfl, rfl⟩)
        go_round
        case rel => exact ⟨k + 1, by omega, by go_num, HT2⟩
        case measure => simp [intOf]; omega
    · obtain rfl : k = N := by omega
      have HE : Hid (R = true) := by show _ = _; rw [HR.out, ← hT.out, List.take_of_length_le (by rw [← HN.out]; omega)]
      go_wp2
      go_ret
      exact ⟨by rw [HE.out]; rfl, rfl⟩
end Go.Proofs.YtldjiieckddhkaaGreatDoor
