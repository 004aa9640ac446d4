import Derived.Test.YtldjiieckddhkaaGreatDoorMg4
namespace Go.Proofs.YtldjiieckddhkaaGreatDoor
open Go.RowKit
theorem in3 : (Tryz.prog.info? 3).map (fun i => (i.zero, i.size, i.bytes)) = some (some (.int .i64 0), 1, 8) := by kernel_rfl
def intC (ds : List Nat) : List Value := ds.map fun (d : Nat) => .int .i64 (d : Int)
theorem own_on {w w' : World} {base e size n : Nat} {v : Value} {xs : List Value} (h : w.ownsRow base e size v n xs) (hb : Below w.heap.size w w') : w'.ownsRow base e size v n xs := by
  refine ⟨h.1, ?_⟩
  rcases h.2 with h | ⟨g, cap, cur, r1, r2, r3, r4⟩
  · exact .inl h
  · exact .inr ⟨g, cap, cur, r1, r2, by rw [hb.block g (Array.getElem?_eq_some_iff.1 r3).1]; exact r3, r4⟩
theorem own_form3 {w : World} {base e size : Nat} {v : Value} {n : Nat} {xs : List Value} (h : w.ownsRow base e size v n xs) : ∃ a cap, v = .slice a n cap ∧ n ≤ cap := by
  rcases h.2 with ⟨h1, h2⟩ | ⟨g, cap, cur, h1, _, _, h4, _⟩
  · exact ⟨none, 0, by rw [h1, h2], by omega⟩
  · exact ⟨_, _, h1, h4⟩
theorem own_take {w : World} {base : Nat} {a : Option Addr} {n cap : Nat} {ds : List Nat} (h : w.ownsRow base 3 1 (.slice a n cap) n (intC ds)) (k : Nat) (hk : k ≤ n) : w.ownsRow base 3 1 (.slice a k cap) k (intC (ds.take k)) := by
  have hl : ds.length = n := by have := h.1; rw [intC, List.length_map] at this; omega
  refine ⟨by rw [intC, List.length_map, List.length_take]; omega, ?_⟩
  rcases h.2 with ⟨h1, h2⟩ | ⟨g, cap', cur, h1, r2, r3, r4, r5, r6, r7⟩
  · injection h1 with e1 e2 e3
    subst e1 e3
    have : k = 0 := by omega
    exact .inl ⟨by rw [this], this⟩
  · injection h1 with e1 e2 e3
    subst e1 e3
    refine .inr ⟨g, cap, cur, rfl, r2, r3, by omega, r5, r6, ?_⟩
    have := congrArg (List.take k) r7
    rw [List.take_take] at this
    rw [intC, List.map_take, Nat.mul_one]
    rw [show min k (n * 1) = k from by omega] at this
    exact this
theorem one_cell (w : World) (c : Int) : ∀ j u, ([Value.int .i64 c])[j]? = some u → (w.alloc (.cells #[.int .i64 c] 3)).cell? ((⟨w.heap.size, 0, none⟩ : Addr).add j) = some u := fun j u hj => by
  match j, hj with
  | 0, hj => simp at hj; subst hj; simp [Addr.add]
theorem deep_take (l : List Nat) (j d : Nat) (h : l[j]? = some d) : deep (l.take (j + 1)) = max (deep (l.take j)) (d + 1) := by
  unfold deep
  rw [List.take_add_one, h, List.foldl_append]
  rfl
theorem deep_le (l : List Nat) (K : Nat) (h : ∀ d ∈ l, d ≤ K) : deep l ≤ K + 1 := by
  have key : ∀ (l : List Nat) (m : Nat), m ≤ K + 1 → (∀ d ∈ l, d ≤ K) → l.foldl (fun m d => max m (d + 1)) m ≤ K + 1 := by
    intro l
    induction l with
    | nil => intro m hm _; exact hm
    | cons a l ih =>
      intro m hm hl
      refine ih _ ?_ (fun d hd => hl d (List.mem_cons_of_mem _ hd))
      have := hl a List.mem_cons_self
      show max m (a + 1) ≤ K + 1
      omega
  exact key l 1 (by omega) h
theorem deep_pos (l : List Nat) : 1 ≤ deep l := (deep_ge l 1).2
theorem depth_lack {x : List Pt} {i : Nat} {p : Pt} {ds : List Nat} (hi : x[i]? = some p) (hd : depths (x.take i) [] = some ds.reverse) (hp : stepD p ds = none) : depth x = 0 := by
  unfold depth
  rw [split_at hi, depths_app, hd]
  simp only []
  rw [depths_step, hp]
theorem depth_one {x : List Pt} {ds : List Nat} (hd : depths x [] = some ds.reverse) (h1 : ds.length ≠ 1) : depth x = 0 := by
  unfold depth
  rw [hd]
  match hr : ds.reverse with
  | [] => rfl
  | [a] => exact absurd (by rw [← List.length_reverse, hr]; rfl) h1
  | a :: b :: r => rfl
theorem depth_good {x : List Pt} {a : Nat} (hd : depths x [] = some [a]) : depth x = a := by
  unfold depth
  rw [hd]
theorem step_le {p : Pt} {ds ds' : List Nat} {k : Nat} (h : stepD p ds = some ds') (hk : ∀ d ∈ ds, d ≤ k) : ∀ d ∈ ds', d ≤ k + 1 := by
  unfold stepD at h
  split at h
  · cases h
  · injection h with h
    intro d hd
    rw [← h] at hd
    rcases List.mem_append.1 hd with hd | hd
    · exact Nat.le_succ_of_le (hk d (List.mem_of_mem_take hd))
    · rw [List.mem_singleton.1 hd]
      exact deep_le _ k (fun d hd => hk d (List.mem_of_mem_drop hd))
theorem depths_le : ∀ (x : List Pt) (ds st : List Nat) (k : Nat), depths x ds.reverse = some st → (∀ d ∈ ds, d ≤ k) → ∀ d ∈ st, d ≤ k + x.length
  | [], ds, st, k, h, hb => by
    have h' : some ds.reverse = some st := h
    injection h' with h
    intro d hd
    rw [← h] at hd
    exact Nat.le_add_right_of_le (hb d (List.mem_reverse.1 hd))
  | p :: x, ds, st, k, h, hb => by
    rw [depths_step] at h
    cases hs : stepD p ds with
    | none => rw [hs] at h; cases h
    | some ds' =>
      rw [hs] at h
      have := depths_le x ds' st (k + 1) h (step_le hs hb)
      intro d hd
      have := this d hd
      rw [List.length_cons]
      omega
theorem depth_le_len (x : List Pt) : depth x ≤ x.length := by
  unfold depth
  split
  · rename_i d hd
    have := depths_le x [] [d] 0 hd (fun d hd => by cases hd) d List.mem_cons_self
    omega
  · exact Nat.zero_le _
set_option maxRecDepth 100000 in
set_option maxHeartbeats 3200000 in
theorem depthOf_any (v : Value) (x : List Pv) (w : World) (hL : PLst w v x) (hlen : x.length ≤ 3000000000000) : Calls Tryz.prog 77 #[v] w fun e w' => e = .returned (.tuple #[.int .i64 ((depth (x.map ptV) : Nat) : Int), .bool (decide (depth (x.map ptV) ≠ 0))]) ∧ Below w.heap.size w w' := by
  obtain ⟨a, b, off, cap, rfl, hA, hI⟩ := hL
  have HA := hide hA
  have HI := hide hI
  obtain ⟨N, hN⟩ : ∃ N, N = x.length := ⟨_, rfl⟩
  have HN := hide hN
  rw [← hN] at hlen ⊢
  have n5 : (N : Int) ≤ 3000000000000 := by omega
  have n0 : (0 : Int) ≤ (N : Int) := by omega
  obtain ⟨i0, hi, hz0, hz1, hz2⟩ := info_parts in3
  clear hN hA hI
  go_enter Tryz.func77, Tryz.ntmps77
  go_wp2_with fail
  go_loopw [4, 13] (fun dv i wr => ∃ (k : Nat) (ds : List Nat) (dv' : Value), k ≤ N ∧ i = .int .i64 (k : Int) ∧ dv' = dv ∧ Hid (wr.ownsRow w.heap.size 3 1 dv' ds.length (intC ds) ∧ ds.length ≤ k ∧ depths ((x.map ptV).take k) [] = some ds.reverse ∧ (∀ d ∈ ds, 1 ≤ d ∧ d ≤ k) ∧ Below w.heap.size w wr)) (fun _ i _ => N - (intOf i).toNat)
  case atStart => exact ⟨0, [], .slice none 0 0, by omega, rfl, rfl, World.ownsRow_nil _ _ _ _, Nat.le_refl _, rfl, fun d hd => (by cases hd), Below.refl _ _⟩
  case round =>
    obtain ⟨k, ds, dv, hk, rfl, rfl, hh⟩ := hrel
    have O := hide hh.out.1
    have HD := hide hh.out.2.2.1
    have HS := hide hh.out.2.2.2.1
    have HB := hide hh.out.2.2.2.2
    have hdl := hh.out.2.1
    obtain ⟨da, dcap, hdv, hdc⟩ := own_form3 O.out
    subst hdv
    clear hh
    by_cases hlt : k < N
    · have j1 : (k : Int) < (N : Int) := by omega
      have j0 : (0 : Int) ≤ (k : Int) := by omega
      obtain ⟨y, hy⟩ : ∃ y, x[k]? = some y := ⟨_, List.getElem?_eq_getElem (by rw [← HN.out]; exact hlt)⟩
      have HY : Hid ((x.map ptV)[k]? = some (ptV y)) := by show _ = _; rw [List.getElem?_map, hy]; rfl
      obtain ⟨hbw, rfl⟩ := HA.out (by rw [← HN.out]; omega)
      obtain ⟨q0, q1, q2, q3, q4⟩ := HI.out k y hy
      have c0 := (HB.out.cell (p := ⟨b, off + k * 5, none⟩) hbw).trans q0
      have c1 := (HB.out.cell (p := ⟨b, off + k * 5 + 1, none⟩) hbw).trans q1
      have c2 := (HB.out.cell (p := ⟨b, off + k * 5 + 2, none⟩) hbw).trans q2
      have c3 := (HB.out.cell (p := ⟨b, off + k * 5 + 3, none⟩) hbw).trans q3
      have c4 := (HB.out.cell (p := ⟨b, off + k * 5 + 4, none⟩) hbw).trans q4
      clear q0 q1 q2 q3 q4 hy
      have zr := HB.out.size
      have m1 := fun W => operands_v y W
      have B1 := HB.out.alloc zr (.cells #[.int .i64 y.k, .int .i64 y.n, .int .i64 y.t, .string y.s, .string y.f] 38)
      have hbel := (Below.refl wr.heap.size wr).alloc (Nat.le_refl _) (.cells #[.int .i64 y.k, .int .i64 y.n, .int .i64 y.t, .string y.s, .string y.f] 38)
      have O1 := own_on O.out hbel
      have htk := takes_le (ptV y)
      go_wp2_with fail
      refine (m1 _).mono ?_
      rintro e w1 ⟨rfl, hb1⟩
      have bb1 := B1.trans (hb1.mono B1.size)
      have O3 := hide (own_on O1 hb1)
      have BB2 := hide bb1
      obtain ⟨tk, htk2⟩ : ∃ tk, tk = takes (ptV y) := ⟨_, rfl⟩
      have HTK := hide htk2
      rw [← htk2] at htk ⊢
      have dl : (ds.length : Int) ≤ 3000000000000 := by omega
      have tl : (tk : Int) ≤ 2 := by omega
      clear c0 c1 c2 c3 c4 m1 O1 hb1 B1 hbel bb1 htk2 O
      obtain ⟨w2, hw2⟩ : ∃ w2, w2 = w1 := ⟨_, rfl⟩
      subst hw2
      by_cases hf : ds.length < tk
      · have HE : Hid (depth (x.map ptV) = 0) := depth_lack HY.out HD.out (by unfold stepD; rw [if_pos (by rw [← HTK.out]; exact hf)])
        have i3 : (ds.length : Int) - (tk : Int) < 0 := by omega
        clear hf
        generalize ds.length = L at *
        go_wp2
        go_ret2
        exact ⟨by rw [HE.out]; rfl, BB2.out⟩
      · have i3 : ¬ (ds.length : Int) - (tk : Int) < 0 := by omega
        obtain ⟨F, hF⟩ : ∃ F, F = ds.length - tk := ⟨_, rfl⟩
        have hF2 : (ds.length : Int) - (tk : Int) = (F : Int) := by omega
        have HSt : Hid (stepD (ptV y) ds = some (ds.take F ++ [deep (ds.drop F)])) := by
          show _ = _
          unfold stepD
          rw [if_neg (by rw [← HTK.out]; exact hf), ← HTK.out, ← hF]
        have hFl : F ≤ ds.length := by omega
        rw [hF2] at i3
        have i4 : (0 : Int) ≤ (F : Int) := by omega
        obtain ⟨L, hLL⟩ : ∃ L, L = ds.length := ⟨_, rfl⟩
        have HLL := hide hLL
        rw [← hLL] at hdl hdc dl hF2 hFl hF O3 ⊢
        have HF := hide hF
        clear hf hF hLL
        have HDLE : Hid (∀ l : List Nat, (∀ d ∈ l, d ∈ ds) → deep l ≤ k + 1) := fun l hl => deep_le l k (fun d hd => (HS.out d (hl d hd)).2)
        obtain ⟨D, hD⟩ : ∃ D, L - F = D := ⟨_, rfl⟩
        have HDL : Hid ((ds.drop F).length = D) := by show _ = _; rw [List.length_drop, ← HLL.out, hD]
        have lf : (F : Int) ≤ (L : Int) := by omega
        have lc : (L : Int) ≤ (dcap : Int) := by omega
        rcases O3.out.2 with ⟨hnil, hL0⟩ | ⟨g, dcap', cur, hsv, hgb, hgh, hgc, _, hgs, hgt⟩
        · injection hnil with e1 e2 e3
          subst e1 e3
          have hF0 : F = 0 := by omega
          have hD0 : D = 0 := by omega
          subst hL0
          subst hF0
          go_wp2_with fail
          go_loopw [8, 28] (fun dp i wx => ∃ (j m : Nat), j ≤ D ∧ i = .int .i64 (j : Int) ∧ dp = .int .i64 (m : Int) ∧ Hid (m = deep ((ds.drop 0).take j) ∧ wx = w2)) (fun _ i _ => D - (intOf i).toNat)
          case atStart => exact ⟨0, 1, by omega, rfl, rfl, rfl, rfl⟩
          case round =>
            obtain ⟨j, m, hj, rfl, rfl, hh⟩ := hrel
            obtain ⟨hm, hwx⟩ := hh.out
            subst hwx
            have hm25 : m ≤ k + 1 := by rw [hm]; exact HDLE.out _ (fun d hd => List.mem_of_mem_drop (List.mem_of_mem_take hd))
            have HDj := hide hm
            clear hh hm
            by_cases hlt2 : j < D
            · exact absurd hlt2 (by omega)
            · have j2 : ¬ (j : Int) < (D : Int) := by omega
              have HDm : Hid (m = deep (ds.drop 0)) := by
                show _ = _
                rw [HDj.out, List.take_of_length_le (by rw [HDL.out]; omega)]
              clear HDj
              have OT := hide (own_take O3.out 0 hFl)
              have zz := BB2.out.size
              have HNS : Hid (∀ d ∈ ds.take 0 ++ [m], 1 ≤ d ∧ d ≤ k + 1) := fun d hd => by
                rcases List.mem_append.1 hd with h | h
                · exact ⟨(HS.out d (List.mem_of_mem_take h)).1, Nat.le_succ_of_le (HS.out d (List.mem_of_mem_take h)).2⟩
                · rw [List.mem_singleton.1 h]
                  exact ⟨by rw [HDm.out]; exact deep_pos _, hm25⟩
              have HND : Hid (depths ((x.map ptV).take (k + 1)) [] = some (ds.take 0 ++ [m]).reverse) := by
                show _ = _
                rw [List.take_add_one, HY.out, depths_app, HD.out]
                show depths [ptV y] ds.reverse = _
                rw [depths_step, HSt.out, ← HDm.out]
                rfl
              have hF5 : 0 ≤ 3000000000000 := by omega
              have HFL : Hid ((ds.take 0 ++ [m]).length = 0 + 1) := by
                show _ = _
                rw [List.length_append, List.length_take, ← HLL.out, Nat.min_eq_left hFl]; rfl
              have HFK : Hid (0 + 1 ≤ k + 1) := by show _ ≤ _; omega
              clear HD
              go_wp2_with (at_builtin; go_must (refine wpList_append_own _ (by rfl) _ _ 73 (by rfl) w.heap.size 3 i0 (.int .i64 0) 1 8 Tryz.underlying73 hi hz0 hz1 hz2 rfl (by decide) (.slice none 0 0) 0 _ (by rfl) (OT.out.alloc _) ⟨wr.heap.size, 0, none⟩ 1 1 [.int .i64 (m : Int)] (by rfl) (by rfl) (one_cell wr (m : Int)) (by intro u hu; simp at hu; subst hu; rfl) (by unfold maxLen; omega) (by omega) (by rw [World.size_alloc]; omega) ?_; intro dv3 w3 hown3 hgrow3 _))
              have B3 := hide ((BB2.out.alloc zz _).grown hgrow3 (by rw [World.size_alloc]; omega) (fun r hr => (OT.out.lt r hr).1))
              have O5 : Hid (w3.ownsRow w.heap.size 3 1 dv3 (ds.take 0 ++ [m]).length (intC (ds.take 0 ++ [m]))) := by
                show World.ownsRow _ _ _ _ _ _ _
                rw [HFL.out]
                rw [show intC (ds.take 0 ++ [m]) = intC (ds.take 0) ++ [.int .i64 (m : Int)] from by simp [intC]]
                exact hown3
              clear hown3 hgrow3
              go_wp2
              go_roundw
              case rel => exact ⟨k + 1, ds.take 0 ++ [m], dv3, by omega, by go_num, rfl, O5.out, by rw [HFL.out]; exact HFK.out, HND.out, HNS.out, B3.out⟩
              case measure => simp [intOf]; omega
        · injection hsv with e1 e2 e3
          subst e1 e3
          have hcell : ∀ j, j < D → ∃ d, (ds.drop F)[j]? = some d ∧ w2.cell? ⟨g, F + j, none⟩ = some (.int .i64 (d : Int)) := fun j hj => by
            have hj2 : F + j < ds.length := by rw [← HLL.out]; omega
            refine ⟨ds[F + j], by rw [List.getElem?_drop, List.getElem?_eq_getElem hj2], ?_⟩
            rw [O3.out.cellAt (F + j) (by omega), intC, List.getElem?_map, List.getElem?_eq_getElem hj2]; rfl
          have HCELL := hide hcell
          have hgw : g < w2.heap.size := (Array.getElem?_eq_some_iff.1 hgh).1
          clear hcell hgt hgs hgh hgb
          by_cases hFc : F = dcap
          · have hD0 : D = 0 := by omega
            have hLF : L = F := by omega
            subst hLF
            subst hFc
            go_wp2_with fail
            go_loopw [8, 28] (fun dp i wx => ∃ (j m : Nat), j ≤ D ∧ i = .int .i64 (j : Int) ∧ dp = .int .i64 (m : Int) ∧ Hid (m = deep ((ds.drop L).take j) ∧ wx = w2)) (fun _ i _ => D - (intOf i).toNat)
            case atStart => exact ⟨0, 1, by omega, rfl, rfl, rfl, rfl⟩
            case round =>
              obtain ⟨j, m, hj, rfl, rfl, hh⟩ := hrel
              obtain ⟨hm, hwx⟩ := hh.out
              subst hwx
              have hm25 : m ≤ k + 1 := by rw [hm]; exact HDLE.out _ (fun d hd => List.mem_of_mem_drop (List.mem_of_mem_take hd))
              have HDj := hide hm
              clear hh hm
              by_cases hlt2 : j < D
              · exact absurd hlt2 (by omega)
              · have j2 : ¬ (j : Int) < (D : Int) := by omega
                have HDm : Hid (m = deep (ds.drop L)) := by
                  show _ = _
                  rw [HDj.out, List.take_of_length_le (by rw [HDL.out]; omega)]
                clear HDj
                have OT := hide (own_take O3.out L hFl)
                have zz := BB2.out.size
                have HNS : Hid (∀ d ∈ ds.take L ++ [m], 1 ≤ d ∧ d ≤ k + 1) := fun d hd => by
                  rcases List.mem_append.1 hd with h | h
                  · exact ⟨(HS.out d (List.mem_of_mem_take h)).1, Nat.le_succ_of_le (HS.out d (List.mem_of_mem_take h)).2⟩
                  · rw [List.mem_singleton.1 h]
                    exact ⟨by rw [HDm.out]; exact deep_pos _, hm25⟩
                have HND : Hid (depths ((x.map ptV).take (k + 1)) [] = some (ds.take L ++ [m]).reverse) := by
                  show _ = _
                  rw [List.take_add_one, HY.out, depths_app, HD.out]
                  show depths [ptV y] ds.reverse = _
                  rw [depths_step, HSt.out, ← HDm.out]
                  rfl
                have hF5 : L ≤ 3000000000000 := by omega
                have HFL : Hid ((ds.take L ++ [m]).length = L + 1) := by
                  show _ = _
                  rw [List.length_append, List.length_take, ← HLL.out, Nat.min_eq_left hFl]; rfl
                have HFK : Hid (L + 1 ≤ k + 1) := by show _ ≤ _; omega
                clear HD
                go_wp2_with (at_builtin; go_must (refine wpList_append_own _ (by rfl) _ _ 73 (by rfl) w.heap.size 3 i0 (.int .i64 0) 1 8 Tryz.underlying73 hi hz0 hz1 hz2 rfl (by decide) (.slice (some ⟨g, 0, none⟩) L L) L _ (by rfl) (OT.out.alloc _) ⟨wr.heap.size, 0, none⟩ 1 1 [.int .i64 (m : Int)] (by rfl) (by rfl) (one_cell wr (m : Int)) (by intro u hu; simp at hu; subst hu; rfl) (by unfold maxLen; omega) (by omega) (by rw [World.size_alloc]; omega) ?_; intro dv3 w3 hown3 hgrow3 _))
                have B3 := hide ((BB2.out.alloc zz _).grown hgrow3 (by rw [World.size_alloc]; omega) (fun r hr => (OT.out.lt r hr).1))
                have O5 : Hid (w3.ownsRow w.heap.size 3 1 dv3 (ds.take L ++ [m]).length (intC (ds.take L ++ [m]))) := by
                  show World.ownsRow _ _ _ _ _ _ _
                  rw [HFL.out]
                  rw [show intC (ds.take L ++ [m]) = intC (ds.take L) ++ [.int .i64 (m : Int)] from by simp [intC]]
                  exact hown3
                clear hown3 hgrow3
                go_wp2
                go_roundw
                case rel => exact ⟨k + 1, ds.take L ++ [m], dv3, by omega, by go_num, rfl, O5.out, by rw [HFL.out]; exact HFK.out, HND.out, HNS.out, B3.out⟩
                case measure => simp [intOf]; omega
          · have hFc2 : (F : Int) < (dcap : Int) := by omega
            have hFc3 : ¬ dcap - F = 0 := by omega
            go_wp2_with fail
            go_loopw [8, 28] (fun dp i wx => ∃ (j m : Nat), j ≤ D ∧ i = .int .i64 (j : Int) ∧ dp = .int .i64 (m : Int) ∧ Hid (m = deep ((ds.drop F).take j) ∧ wx = w2)) (fun _ i _ => D - (intOf i).toNat)
            case atStart => exact ⟨0, 1, by omega, rfl, rfl, rfl, rfl⟩
            case round =>
              obtain ⟨j, m, hj, rfl, rfl, hh⟩ := hrel
              obtain ⟨hm, hwx⟩ := hh.out
              subst hwx
              have hm25 : m ≤ k + 1 := by rw [hm]; exact HDLE.out _ (fun d hd => List.mem_of_mem_drop (List.mem_of_mem_take hd))
              have HDj := hide hm
              clear hh hm
              by_cases hlt2 : j < D
              · obtain ⟨d, hd1, hd2⟩ := HCELL.out j hlt2
                have j2 : (j : Int) < (D : Int) := by omega
                have HDn : Hid (max m (d + 1) = deep ((ds.drop F).take (j + 1))) := by
                  show _ = _
                  rw [deep_take _ j d hd1, ← HDj.out]
                have hd24 : d ≤ k := (HS.out d (List.mem_of_mem_drop (List.mem_of_getElem? hd1))).2
                have hmx : (max (m : Int) ((d : Int) + 1)) = ((max m (d + 1) : Nat) : Int) := by omega
                have d5 : (d : Int) ≤ 3000000000000 := by omega
                have d6 : (0 : Int) ≤ (d : Int) := by omega
                have m5 : (m : Int) ≤ 3000000000001 := by omega
                have lF : (F : Int) + (j : Int) ≤ 6000000000000 := by omega
                clear hd1
                go_wp2
                go_roundw
                case rel => exact ⟨j + 1, max m (d + 1), by omega, by go_num, by first | rfl | rw [show (if (m : Int) < (d : Int) + 1 then (d : Int) + 1 else (m : Int)) = ((max m (d + 1) : Nat) : Int) from by split <;> omega], HDn.out, trivial⟩
                case measure => simp [intOf]; omega
              · have j2 : ¬ (j : Int) < (D : Int) := by omega
                have HDm : Hid (m = deep (ds.drop F)) := by
                  show _ = _
                  rw [HDj.out, List.take_of_length_le (by rw [HDL.out]; omega)]
                clear HDj
                have OT := hide (own_take O3.out F hFl)
                have zz := BB2.out.size
                have HNS : Hid (∀ d ∈ ds.take F ++ [m], 1 ≤ d ∧ d ≤ k + 1) := fun d hd => by
                  rcases List.mem_append.1 hd with h | h
                  · exact ⟨(HS.out d (List.mem_of_mem_take h)).1, Nat.le_succ_of_le (HS.out d (List.mem_of_mem_take h)).2⟩
                  · rw [List.mem_singleton.1 h]
                    exact ⟨by rw [HDm.out]; exact deep_pos _, hm25⟩
                have HND : Hid (depths ((x.map ptV).take (k + 1)) [] = some (ds.take F ++ [m]).reverse) := by
                  show _ = _
                  rw [List.take_add_one, HY.out, depths_app, HD.out]
                  show depths [ptV y] ds.reverse = _
                  rw [depths_step, HSt.out, ← HDm.out]
                  rfl
                have hF5 : F ≤ 3000000000000 := by omega
                have HFL : Hid ((ds.take F ++ [m]).length = F + 1) := by
                  show _ = _
                  rw [List.length_append, List.length_take, ← HLL.out, Nat.min_eq_left hFl]; rfl
                have HFK : Hid (F + 1 ≤ k + 1) := by show _ ≤ _; omega
                clear HD
                go_wp2_with (at_builtin; go_must (refine wpList_append_own _ (by rfl) _ _ 73 (by rfl) w.heap.size 3 i0 (.int .i64 0) 1 8 Tryz.underlying73 hi hz0 hz1 hz2 rfl (by decide) (.slice (some ⟨g, 0, none⟩) F dcap) F _ (by rfl) (OT.out.alloc _) ⟨wr.heap.size, 0, none⟩ 1 1 [.int .i64 (m : Int)] (by rfl) (by rfl) (one_cell wr (m : Int)) (by intro u hu; simp at hu; subst hu; rfl) (by unfold maxLen; omega) (by omega) (by rw [World.size_alloc]; omega) ?_; intro dv3 w3 hown3 hgrow3 _))
                have B3 := hide ((BB2.out.alloc zz _).grown hgrow3 (by rw [World.size_alloc]; omega) (fun r hr => (OT.out.lt r hr).1))
                have O5 : Hid (w3.ownsRow w.heap.size 3 1 dv3 (ds.take F ++ [m]).length (intC (ds.take F ++ [m]))) := by
                  show World.ownsRow _ _ _ _ _ _ _
                  rw [HFL.out]
                  rw [show intC (ds.take F ++ [m]) = intC (ds.take F) ++ [.int .i64 (m : Int)] from by simp [intC]]
                  exact hown3
                clear hown3 hgrow3
                go_wp2
                go_roundw
                case rel => exact ⟨k + 1, ds.take F ++ [m], dv3, by omega, by go_num, rfl, O5.out, by rw [HFL.out]; exact HFK.out, HND.out, HNS.out, B3.out⟩
                case measure => simp [intOf]; omega
    · obtain rfl : k = N := by omega
      have htk : (x.map ptV).take k = x.map ptV := List.take_of_length_le (by rw [List.length_map, ← HN.out]; exact Nat.le_refl _)
      have hd := HD.out
      rw [htk] at hd
      have dl : (ds.length : Int) ≤ 3000000000000 := by omega
      by_cases h1 : ds.length = 1
      · match ds, h1 with
        | [d0], _ =>
          have hdd : depth (x.map ptV) = d0 := depth_good hd
          have hpos := (HS.out d0 List.mem_cons_self).1
          have hE : ((depth (x.map ptV) : Nat) : Int) = (d0 : Int) ∧ decide (depth (x.map ptV) ≠ 0) = true := by
            rw [hdd]; exact ⟨rfl, decide_eq_true (by omega)⟩
          have HE := hide hE
          obtain ⟨g, dcap', cur, hsv, hgb, hgh, hgc, _, hgs, hgt⟩ : ∃ g c' cur, (Value.slice da [d0].length dcap) = .slice (some ⟨g, 0, none⟩) 1 c' ∧ _ := by
            rcases O.out.2 with ⟨_, h0⟩ | h
            · exact absurd h0 Nat.one_ne_zero
            · exact h
          injection hsv with e1 e2 e3
          subst e1 e3
          have c9 : wr.cell? ⟨g, 0, none⟩ = some (.int .i64 (d0 : Int)) := by
            rw [O.out.cellAt 0 Nat.one_pos]; rfl
          clear htk hd HD HS O hE hdd hgb hgh hgs hgt
          go_wp2
          go_ret2
          exact ⟨by rw [HE.out.1, HE.out.2]; rfl, HB.out⟩
      · have HE : Hid (depth (x.map ptV) = 0) := depth_one hd h1
        have i1 : ((ds.length : Int) == 1) = false := by rw [beq_eq_false_iff_ne]; omega
        clear htk hd HD HS O h1
        generalize ds.length = L at *
        go_wp2
        go_ret2
        exact ⟨by rw [HE.out]; rfl, HB.out⟩
set_option maxRecDepth 100000 in
set_option maxHeartbeats 3200000 in
theorem check_any (v : Value) (x : List Pv) (w : World) (hL : PLst w v x) (hlen : x.length ≤ 4398046510976) (hg : Glo w) : Calls Tryz.prog 36 #[v] w fun e w' => e = .returned (.int .i64 (checkP (x.map ptV))) ∧ Below w.heap.size w w' := by
  have HPL := hide hL
  obtain ⟨a, b, off, cap, rfl, hA, hI⟩ := hL
  by_cases h5 : 500 < x.length
  · have HE : Hid (checkP (x.map ptV) = 2) := by show _ = _; unfold checkP; rw [if_pos (by rw [List.length_map]; exact h5)]
    have i1 : (500 : Int) < (x.length : Int) := by omega
    have i2 : (x.length : Int) ≤ 4398046510976 := by omega
    clear hA hI hg h5 hlen HPL
    generalize x.length = N at *
    go_enter Tryz.func36, Tryz.ntmps36
    go_wp2
    go_ret
    exact ⟨by rw [HE.out]; rfl, Below.refl _ _⟩
  have HA := hide hA
  have HI := hide hI
  have HG := hide hg
  have HX5 : Hid (¬ 500 < (x.map ptV).length) := by show ¬ _; rw [List.length_map]; exact h5
  have HDO : Hid (∀ W, Below w.heap.size w W → Calls Tryz.prog 77 #[.slice a x.length cap] W fun e w' => e = .returned (.tuple #[.int .i64 ((depth (x.map ptV) : Nat) : Int), .bool (decide (depth (x.map ptV) ≠ 0))]) ∧ Below W.heap.size W w') := fun W hW => depthOf_any _ x W (HPL.out.below hW (Nat.le_refl _)) (by omega)
  obtain ⟨N, hN⟩ : ∃ N, N = x.length := ⟨_, rfl⟩
  have HN := hide hN
  rw [← hN] at h5 HDO ⊢
  have n5 : ¬ (500 : Int) < (N : Int) := by omega
  have n0 : (0 : Int) ≤ (N : Int) := by omega
  clear hN hA hI hg hlen HPL
  go_enter Tryz.func36, Tryz.ntmps36
  go_wp2_with fail
  go_loopw [12] (fun i wr => ∃ (k : Nat), k ≤ N ∧ i = .int .i64 (k : Int) ∧ Hid ((∀ (j : Nat) p, j < k → (x.map ptV)[j]? = some p → mayP p = true) ∧ Below w.heap.size w wr)) (fun i _ => N - (intOf i).toNat)
  case atStart => exact ⟨0, by omega, rfl, fun j p hj => absurd hj (Nat.not_lt_zero _), Below.refl _ _⟩
  case round =>
    obtain ⟨k, hk, rfl, hh⟩ := hrel
    have HM := hide hh.out.1
    have HB := hide hh.out.2
    clear hh
    by_cases hlt : k < N
    · have j1 : (k : Int) < (N : Int) := by omega
      have j0 : (0 : Int) ≤ (k : Int) := by omega
      obtain ⟨y, hy⟩ : ∃ y, x[k]? = some y := ⟨_, List.getElem?_eq_getElem (by rw [← HN.out]; exact hlt)⟩
      have HY : Hid ((x.map ptV)[k]? = some (ptV y)) := by show _ = _; rw [List.getElem?_map, hy]; rfl
      obtain ⟨hbw, rfl⟩ := HA.out (by rw [← HN.out]; omega)
      obtain ⟨q0, q1, q2, q3, q4⟩ := HI.out k y hy
      have c0 := (HB.out.cell (p := ⟨b, off + k * 5, none⟩) hbw).trans q0
      have c1 := (HB.out.cell (p := ⟨b, off + k * 5 + 1, none⟩) hbw).trans q1
      have c2 := (HB.out.cell (p := ⟨b, off + k * 5 + 2, none⟩) hbw).trans q2
      have c3 := (HB.out.cell (p := ⟨b, off + k * 5 + 3, none⟩) hbw).trans q3
      have c4 := (HB.out.cell (p := ⟨b, off + k * 5 + 4, none⟩) hbw).trans q4
      clear q0 q1 q2 q3 q4 hy
      have zr := HB.out.size
      have B1 := HB.out.alloc zr (.cells #[.int .i64 y.k, .int .i64 y.n, .int .i64 y.t, .string y.s, .string y.f] 38)
      have m2 := mayBe_v y _ (HG.out.below B1 HG.out.lt)
      go_wp2_with fail
      refine m2.mono ?_
      rintro e w2 ⟨rfl, hb2⟩
      have BB2 := hide (B1.trans (hb2.mono B1.size))
      clear m2 hb2 B1 c0 c1 c2 c3 c4
      cases hm : mayP (ptV y) with
      | false =>
        have HE := hide (check_may HX5.out HY.out hm)
        go_wp2
        go_ret
        exact ⟨by rw [HE.out]; rfl, BB2.out⟩
      | true =>
        have HMM := hide hm
        have HNM : Hid (∀ (j : Nat) p, j < k + 1 → (x.map ptV)[j]? = some p → mayP p = true) := fun j p hj hp => by
          rcases Nat.lt_or_ge j k with h | h
          · exact HM.out j p h hp
          · have : j = k := by omega
            subst this
            rw [← Option.some.inj (HY.out.symm.trans hp)]
            exact HMM.out
        clear hm HMM HM
        go_wp2
        go_roundw
        case rel => exact ⟨k + 1, by omega, by go_num, HNM.out, BB2.out⟩
        case measure => simp [intOf]; omega
    · obtain rfl : k = N := by omega
      have HMM : Hid ((x.map ptV).all mayP = true) := by
        show _ = _
        rw [List.all_eq_true]
        intro p hp
        obtain ⟨i, hi⟩ := List.mem_iff_getElem?.1 hp
        exact HM.out i p (by have := (List.getElem?_eq_some_iff.1 hi).1; rw [List.length_map, ← HN.out] at this; exact this) hi
      have c9 := HDO.out wr HB.out
      have HZ : Hid (checkP (x.map ptV) = if depth (x.map ptV) = 0 ∨ 24 < depth (x.map ptV) then 60 else 0) := by
        show _ = _
        unfold checkP
        rw [if_neg HX5.out, if_neg (by rw [HMM.out]; decide)]
      have HDEP : Hid (depth (x.map ptV) ≤ 500) := by show _ ≤ _; exact Nat.le_trans (depth_le_len _) (by have := HX5.out; omega)
      obtain ⟨dd, hdd⟩ : ∃ dd, dd = depth (x.map ptV) := ⟨_, rfl⟩
      rw [← hdd] at c9 HZ HDEP
      clear hdd HM HMM HDO
      have d5 : (dd : Int) ≤ 500 := by have := HDEP.out; omega
      have d0 : (0 : Int) ≤ (dd : Int) := by omega
      go_wp2_with fail
      refine c9.mono ?_
      rintro e w2 ⟨rfl, hb2⟩
      have BB2 := hide (HB.out.trans (hb2.mono HB.out.size))
      clear c9 hb2
      by_cases h0 : dd = 0
      · have HE : Hid (checkP (x.map ptV) = 60) := by show _ = _; rw [HZ.out, if_pos (.inl h0)]
        have i1 : decide (dd ≠ 0) = false := decide_eq_false (by omega)
        rw [i1]
        clear HZ i1
        go_wp2
        go_ret
        exact ⟨by rw [HE.out]; rfl, BB2.out⟩
      · have i1 : decide (dd ≠ 0) = true := decide_eq_true h0
        rw [i1]
        by_cases h24 : 24 < dd
        · have HE : Hid (checkP (x.map ptV) = 60) := by show _ = _; rw [HZ.out, if_pos (.inr h24)]
          have i2 : (24 : Int) < (dd : Int) := by omega
          clear HZ i1 h24 h0
          go_wp2
          go_ret
          exact ⟨by rw [HE.out]; rfl, BB2.out⟩
        · have HE : Hid (checkP (x.map ptV) = 0) := by show _ = _; rw [HZ.out, if_neg (by omega)]
          have i2 : ¬ (24 : Int) < (dd : Int) := by omega
          clear HZ i1 h24 h0
          go_wp2
          go_ret
          exact ⟨by rw [HE.out]; rfl, BB2.out⟩
end Go.Proofs.YtldjiieckddhkaaGreatDoor
