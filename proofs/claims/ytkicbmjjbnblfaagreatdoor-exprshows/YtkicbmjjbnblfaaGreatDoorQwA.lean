/- The contracts of the document's Takes, word, mark and Word. | The contract of the document's Depth. -/
import Derived.Test.YtkicbmjjbnblfaaGreatDoorShA
import Derived.Test.YtkicbmjjbnblfaaGreatDoorDcA
namespace Go.Proofs.YtkicbmjjbnblfaaGreatDoor
open Go.RowKit
set_option maxRecDepth 100000 in
set_option maxHeartbeats 1600000 in
theorem qTakes_any (k n t : Int) (s f : ByteArray) (w : World) : Calls Tryz.prog 41 #[.agg #[.int .i64 k, .int .i64 n, .int .i64 t, .string s, .string f]] w fun e w' => e = .returned (.int .i64 ((takes ⟨k, [], [], n, t⟩ : Nat) : Int)) ∧ Below w.heap.size w w' := by
  have B0 := hide ((Below.refl w.heap.size w).alloc (Nat.le_refl _) (.cells #[.int .i64 k, .int .i64 n, .int .i64 t, .string s, .string f] 39))
  have HT : Hid (takes ⟨k, [], [], n, t⟩ = if k = 3 ∨ k = 6 then 1 else if k = 5 ∧ (n = 15 ∨ n = 16) then 1 else if k = 5 then 2 else 0) := rfl
  by_cases h3 : k = 3
  · subst h3
    rw [if_pos (.inl rfl)] at HT
    go_enter Tryz.func41, Tryz.ntmps41
    go_wp2
    go_ret
    exact ⟨by rw [HT.out]; rfl, B0.out⟩
  by_cases h6 : k = 6
  · subst h6
    rw [if_pos (.inr rfl)] at HT
    go_enter Tryz.func41, Tryz.ntmps41
    go_wp2
    go_ret
    exact ⟨by rw [HT.out]; rfl, B0.out⟩
  rw [if_neg (by omega)] at HT
  by_cases h5 : k = 5
  · subst h5
    by_cases h15 : n = 15
    · subst h15
      rw [if_pos (by omega)] at HT
      go_enter Tryz.func41, Tryz.ntmps41
      go_wp2
      go_ret
      exact ⟨by rw [HT.out]; rfl, B0.out⟩
    by_cases h16 : n = 16
    · subst h16
      rw [if_pos (by omega)] at HT
      go_enter Tryz.func41, Tryz.ntmps41
      go_wp2
      go_ret
      exact ⟨by rw [HT.out]; rfl, B0.out⟩
    rw [if_neg (by omega), if_pos rfl] at HT
    have q1 : (n == 15) = false := by rw [beq_eq_false_iff_ne]; exact h15
    have q2 : (n == 16) = false := by rw [beq_eq_false_iff_ne]; exact h16
    go_enter Tryz.func41, Tryz.ntmps41
    go_wp2
    go_ret
    exact ⟨by rw [HT.out]; rfl, B0.out⟩
  · rw [if_neg (by omega), if_neg h5] at HT
    have q1 : (k == 3) = false := by rw [beq_eq_false_iff_ne]; exact h3
    have q2 : (k == 6) = false := by rw [beq_eq_false_iff_ne]; exact h6
    have q3 : (k == 5) = false := by rw [beq_eq_false_iff_ne]; exact h5
    go_enter Tryz.func41, Tryz.ntmps41
    go_wp2
    go_ret
    exact ⟨by rw [HT.out]; rfl, B0.out⟩
theorem qTakes_v (x : Pv) (w : World) : Calls Tryz.prog 41 #[.agg #[.int .i64 x.k, .int .i64 x.n, .int .i64 x.t, .string x.s, .string x.f]] w fun e w' => e = .returned (.int .i64 ((takes (ptV x) : Nat) : Int)) ∧ Below w.heap.size w w' := qTakes_any x.k x.n x.t x.s x.f w
set_option maxRecDepth 100000 in
set_option maxHeartbeats 800000 in
theorem qword_any (s : ByteArray) (w : World) : Calls Tryz.prog 39 #[.string s] w fun e w' => e = .returned (tvA (wdT s)) ∧ Below w.heap.size w w' := by
  have HF : Hid (Below w.heap.size w (w.alloc (.cells #[.int .i64 1, .string s, .int .i64 0, .int .i64 0, .int .i64 0] 54))) := (Below.refl _ _).alloc (Nat.le_refl _) _
  go_enter Tryz.func39, Tryz.ntmps39
  go_wp2
  refine bodyPost_ret (v := tvA (wdT s)) ?_ rfl ⟨rfl, HF.out⟩
  simp [results, Tryz.results39, go_sem, tvA, wdT]
set_option maxRecDepth 100000 in
set_option maxHeartbeats 800000 in
theorem qmark_any (s : ByteArray) (w : World) : Calls Tryz.prog 40 #[.string s] w fun e w' => e = .returned (tvA (sgT s)) ∧ Below w.heap.size w w' := by
  have HF : Hid (Below w.heap.size w (w.alloc (.cells #[.int .i64 3, .string s, .int .i64 0, .int .i64 0, .int .i64 0] 54))) := (Below.refl _ _).alloc (Nat.le_refl _) _
  go_enter Tryz.func40, Tryz.ntmps40
  go_wp2
  refine bodyPost_ret (v := tvA (sgT s)) ?_ rfl ⟨rfl, HF.out⟩
  simp [results, Tryz.results40, go_sem, tvA, sgT]
end Go.Proofs.YtkicbmjjbnblfaaGreatDoor
namespace Go.Proofs.YtkicbmjjbnblfaaGreatDoor
open Go.RowKit
theorem deep_fold (l : List Nat) : ∀ m n, l.foldl (fun m d => max m (d + 1)) (max m n) = max m (l.foldl (fun m d => max m (d + 1)) n) := by
  induction l with
  | nil => intro m n; rfl
  | cons a l ih =>
    intro m n
    show l.foldl _ (max (max m n) (a + 1)) = max m (l.foldl _ (max n (a + 1)))
    rw [Nat.max_assoc, ih]
theorem deep_cons (a : Nat) (l : List Nat) : deep (a :: l) = max (a + 1) (deep l) := by
  show l.foldl _ (max 1 (a + 1)) = max (a + 1) (l.foldl _ 1)
  rw [Nat.max_comm, deep_fold]
theorem deep_drop (ds : List Nat) (i d : Nat) (h : ds[i]? = some d) : deep (ds.drop i) = max (d + 1) (deep (ds.drop (i + 1))) := by
  obtain ⟨hi, he⟩ := List.getElem?_eq_some_iff.1 h
  rw [List.drop_eq_getElem_cons hi, he, deep_cons]
theorem run_append_nil3 (ty : Nat) (v : Value) (hv : ∃ a n cap, v = .slice a n cap ∧ n ≤ cap) (c : Nat) (W : World) : (Builtin.append_ #[77, 77] ty #[v, .slice none 0 c]).run Tryz.prog W = .ok v W := by
  obtain ⟨a, n, cap, rfl, hn⟩ := hv
  cases a <;> simp [Builtin.append_, go_sem, hn]
theorem intC_length (l : List Nat) : (intC l).length = l.length := by rw [intC, List.length_map]
theorem run_append_ints (w : World) (base ty n : Nat) (v : Value) (xs : List Value) (hown : w.ownsRow base 3 1 v n xs) (base2 : Nat) (u : Value) (l : List Nat) (hu : w.ownsRow base2 3 1 u l.length (intC l)) (hbytes : n + l.length ≤ 1000000000000) (hbase : base ≤ w.heap.size) :
    ∃ v' w', (Builtin.append_ #[77, 77] ty #[v, u]).run Tryz.prog w = .ok v' w' ∧ w'.ownsRow base 3 1 v' (n + l.length) (xs ++ intC l) ∧ w.grownBy w' v.ownBlock := by
  obtain ⟨i0, hi, hz0, hz1, hz2⟩ := info_parts in3
  rcases hu.2 with ⟨h1, h2⟩ | ⟨g, cap, cur, h1, _, _, h4, _⟩
  · subst h1
    have hl : l = [] := List.eq_nil_of_length_eq_zero h2
    subst hl
    obtain ⟨a, c, hv, hn⟩ := own_form3 hown
    refine ⟨v, w, run_append_nil3 ty v ⟨_, _, _, hv, hn⟩ 0 w, ?_, ⟨rfl, rfl, rfl, Nat.le_refl _, fun _ _ _ => rfl⟩⟩
    show w.ownsRow base 3 1 v n (xs ++ [])
    rw [List.append_nil]; exact hown
  · subst h1
    have hcl := hu.cellAt
    obtain ⟨v', w', hr, h2, h3, h4, _⟩ := run_append_own_at (P := Tryz.prog) w base 77 ty 3 i0 _ 1 8 Tryz.underlying77 hi hz0 hz1 hz2 rfl (by omega) _ n xs hown ⟨g, 0, none⟩ l.length cap (intC l) (by rw [intC_length]; omega) (fun j x hx => by
      have hj : j < l.length := by have := (List.getElem?_eq_some_iff.1 hx).1; rwa [intC_length] at this
      rw [show (⟨g, 0, none⟩ : Addr).add j = ⟨g, j, none⟩ from by simp [Addr.add]; exact Eq.symm, hcl j (by omega), hx]) (fun x hx => by
      obtain ⟨d, _, rfl⟩ := List.mem_map.1 hx; rfl) (by unfold maxLen; omega) (by omega) hbase
    exact ⟨v', w', hr, h2, h3⟩
theorem wpList_append_ints {w : World} {ops : Array Oper} {rest : List Oper} {o : Oper} {a : Act} {Q : Exit → Act → World → Prop} (hgd : Region.wanted o (yielded ops a.tmps) = true) (s x : Operand)
    (ho : o.op = .call { callee := .builtin .append, args := #[s, x], argTypes := #[77, 77] })
    (base n : Nat) (v : Value) (xs : List Value) (hs : a.eval s = v) (hown : w.ownsRow base 3 1 v n xs) (base2 : Nat) (u : Value) (l : List Nat) (hx : a.eval x = u) (hL : w.ownsRow base2 3 1 u l.length (intC l)) (hbytes : n + l.length ≤ 1000000000000) (hbase : base ≤ w.heap.size)
    (h : ∀ v' w', w'.ownsRow base 3 1 v' (n + l.length) (xs ++ intC l) → w.grownBy w' v.ownBlock → wpList Tryz.prog ops Q rest (a.put o.dst v') w') : wpList Tryz.prog ops Q (o :: rest) a w := by
  refine wpList_step fun K hK => ?_
  rw [if_pos hgd]
  obtain ⟨v', w', hr, h2, h3⟩ := run_append_ints w base o.type n v xs hown base2 u l hL hbytes hbase
  unfold Oper.wp execOp
  simp only [ho, resolve, invoke, builtin, Sem.run_bind, Sem.run_pure, Result.andThen_ok, List.map_toArray, List.map_cons, List.map_nil, hs, hx, hr]
  exact hK _ _ (h v' w' h2 h3)
set_option maxRecDepth 100000 in
theorem cut_ints {w : World} {base : Nat} {a : Option Addr} {n cap : Nat} {xs : List Value} (h : w.ownsRow base 3 1 (.slice a n cap) n xs) (k : Nat) (hk : k ≤ n) (hn : n ≤ 1000000) (W : World) : (Instr.slice 77 (.slice a n cap) none (some (.int .i64 (k : Int))) none).run Tryz.prog W = .ok (.slice a k cap) W := by
  rcases h.2 with ⟨h1, h2⟩ | ⟨g, cap', cur, h1, r2, r3, r4, r5, r6, r7⟩
  · injection h1 with e1 e2 e3
    subst e1 e3
    obtain rfl : k = 0 := by omega
    obtain rfl : n = 0 := h2
    simp [go_sem]
  · injection h1 with e1 e2 e3
    subst e1 e3
    have i1 : (k : Int) ≤ (cap : Int) := by omega
    simp [go_sem, i1]
set_option maxRecDepth 100000 in
set_option maxHeartbeats 3200000 in
theorem qDepth_any (v : Value) (x : List Pv) (w : World) (hL : PLst w v x) (hlen : x.length ≤ 500) : Calls Tryz.prog 26 #[v] w fun e w' => e = .returned (.int .i64 ((depth (x.map ptV) : Nat) : Int)) ∧ Below w.heap.size w w' := by
  obtain ⟨a, b, off, cap, rfl, hA, hI⟩ := hL
  have HA := hide hA
  have HI := hide hI
  obtain ⟨N, hN⟩ : ∃ N, N = x.length := ⟨_, rfl⟩
  have HN := hide hN
  rw [← hN] at hlen ⊢
  have n5 : (N : Int) ≤ 500 := by omega
  have n0 : (0 : Int) ≤ (N : Int) := by omega
  obtain ⟨i0, hi, hz0, hz1, hz2⟩ := info_parts in3
  clear hN hA hI
  go_enter Tryz.func26, Tryz.ntmps26
  go_wp2_with fail
  go_loopw [3, 4, 5, 6, 7] (fun dv i _ _ _ wr => ∃ (k : Nat) (ds : List Nat) (dv' : Value), k ≤ N ∧ i = .int .i64 (k : Int) ∧ dv' = dv ∧ Hid (wr.ownsRow w.heap.size 3 1 dv' ds.length (intC ds) ∧ ds.length ≤ k ∧ depths ((x.map ptV).take k) [] = some ds.reverse ∧ (∀ d ∈ ds, 1 ≤ d ∧ d ≤ k) ∧ Below w.heap.size w wr)) (fun _ i _ _ _ _ => N - (intOf i).toNat)
  case atStart => exact ⟨0, [], .slice none 0 0, by omega, rfl, rfl, World.ownsRow_nil _ _ _ _, Nat.le_refl _, rfl, fun d hd => (by cases hd), Below.refl _ _⟩
  case round =>
    obtain ⟨k, ds, dv, hk, rfl, rfl, hh⟩ := hrel
    have O := hide hh.out.1
    have HD := hide hh.out.2.2.1
    have HS := hide hh.out.2.2.2.1
    have HB := hide hh.out.2.2.2.2
    have hdl := hh.out.2.1
    obtain ⟨da, dcap, hdv, hdc⟩ := own_form3 O.out
    subst hdv
    clear hh
    by_cases hlt : k < N
    · have j1 : (k : Int) < (N : Int) := by omega
      have j0 : (0 : Int) ≤ (k : Int) := by omega
      obtain ⟨y, hy⟩ : ∃ y, x[k]? = some y := ⟨_, List.getElem?_eq_getElem (by rw [← HN.out]; exact hlt)⟩
      have HY : Hid ((x.map ptV)[k]? = some (ptV y)) := by show _ = _; rw [List.getElem?_map, hy]; rfl
      obtain ⟨hbw, rfl⟩ := HA.out (by rw [← HN.out]; omega)
      obtain ⟨q0, q1, q2, q3, q4⟩ := HI.out k y hy
      have c0 := (HB.out.cell (p := ⟨b, off + k * 5, none⟩) hbw).trans q0
      have c1 := (HB.out.cell (p := ⟨b, off + k * 5 + 1, none⟩) hbw).trans q1
      have c2 := (HB.out.cell (p := ⟨b, off + k * 5 + 2, none⟩) hbw).trans q2
      have c3 := (HB.out.cell (p := ⟨b, off + k * 5 + 3, none⟩) hbw).trans q3
      have c4 := (HB.out.cell (p := ⟨b, off + k * 5 + 4, none⟩) hbw).trans q4
      clear q0 q1 q2 q3 q4 hy
      have m1 := fun W => qTakes_v y W
      have htk := takes_le (ptV y)
      go_wp2_with fail
      refine (m1 _).mono ?_
      rintro e w1 ⟨rfl, hb1⟩
      have bb1 := HB.out.trans (hb1.mono HB.out.size)
      have O3 := hide (own_on O.out hb1)
      have BB2 := hide bb1
      obtain ⟨tk, htk2⟩ : ∃ tk, tk = takes (ptV y) := ⟨_, rfl⟩
      have HTK := hide htk2
      rw [← htk2] at htk ⊢
      have dl : (ds.length : Int) ≤ 500 := by omega
      have tl : (tk : Int) ≤ 2 := by omega
      clear c0 c1 c2 c3 c4 m1 hb1 bb1 htk2 O
      by_cases hf : ds.length < tk
      · have HE : Hid (depth (x.map ptV) = 0) := depth_lack HY.out HD.out (by unfold stepD; rw [if_pos (by rw [← HTK.out]; exact hf)])
        have i3 : (ds.length : Int) < (tk : Int) := by omega
        clear hf
        generalize ds.length = L at *
        go_wp2
        go_ret
        exact ⟨by rw [HE.out]; rfl, BB2.out⟩
      · have i3 : ¬ (ds.length : Int) < (tk : Int) := by omega
        obtain ⟨F, hF⟩ : ∃ F, F = ds.length - tk := ⟨_, rfl⟩
        have hF2 : (ds.length : Int) - (tk : Int) = (F : Int) := by omega
        have HSt : Hid (stepD (ptV y) ds = some (ds.take F ++ [deep (ds.drop F)])) := by
          show _ = _
          unfold stepD
          rw [if_neg (by rw [← HTK.out]; exact hf), ← HTK.out, ← hF]
        have hFl : F ≤ ds.length := by omega
        have i4 : (0 : Int) ≤ (F : Int) := by omega
        obtain ⟨L, hLL⟩ : ∃ L, L = ds.length := ⟨_, rfl⟩
        have HLL := hide hLL
        rw [← hLL] at hdl hdc dl hF2 hFl hF O3 i3 ⊢
        have HF := hide hF
        have htL : tk ≤ L := by omega
        clear hf hF hLL
        have HDLE : Hid (∀ l : List Nat, (∀ d ∈ l, d ∈ ds) → deep l ≤ k + 1) := fun l hl => deep_le l k (fun d hd => (HS.out d (hl d hd)).2)
        have HCUT := cut_ints O3.out F hFl (by omega)
        go_wp2_with fail
        go_loopw [6, 7] (fun dp i wx => ∃ (j m : Nat), j ≤ tk ∧ i = .int .i64 (j : Int) ∧ dp = .int .i64 (m : Int) ∧ Hid (m + 1 = deep (ds.drop (L - j)) ∧ wx = w1)) (fun _ i _ => tk - (intOf i).toNat)
        case atStart => exact ⟨0, 0, by omega, rfl, rfl, by rw [Nat.sub_zero, HLL.out, List.drop_length]; rfl, rfl⟩
        case round =>
          obtain ⟨j, m, hj, rfl, rfl, hh⟩ := hrel
          obtain ⟨hm, hwx⟩ := hh.out
          subst hwx
          have hm25 : m + 1 ≤ k + 1 := by rw [hm]; exact HDLE.out _ (fun d hd => List.mem_of_mem_drop hd)
          have HDj := hide hm
          clear hh hm
          by_cases hlt2 : j < tk
          · have j2 : (j : Int) < (tk : Int) := by omega
            obtain ⟨I, hI⟩ : ∃ I, I = L - 1 - j := ⟨_, rfl⟩
            have hI1 : (L : Int) - 1 - (j : Int) = (I : Int) := by omega
            have hI2 : I < L := by omega
            have hI3 : (I : Int) < (L : Int) := by omega
            have hI4 : (0 : Int) ≤ (I : Int) := by omega
            obtain ⟨d, hd⟩ : ∃ d, ds[I]? = some d := ⟨_, List.getElem?_eq_getElem (by rw [← HLL.out]; exact hI2)⟩
            obtain ⟨g, hg⟩ : ∃ g, da = some ⟨g, 0, none⟩ := by
              rcases O3.out.2 with ⟨_, h0⟩ | ⟨g, _, _, h1, _⟩
              · omega
              · injection h1 with e1 e2 e3; exact ⟨g, e1⟩
            subst hg
            have hd2 : wr.cell? ⟨g, I, none⟩ = some (.int .i64 (d : Int)) := by
              rw [O3.out.cellAt I (by omega), intC, List.getElem?_map, hd]; rfl
            have HDn : Hid (max m d + 1 = deep (ds.drop (L - (j + 1)))) := by
              show _ = _
              rw [show L - (j + 1) = I from by omega, deep_drop ds I d hd, show I + 1 = L - j from by omega, ← HDj.out]
              omega
            have hd24 : d ≤ k := (HS.out d (List.mem_of_getElem? hd)).2
            have d5 : (d : Int) ≤ 500 := by omega
            have d6 : (0 : Int) ≤ (d : Int) := by omega
            have m5 : (m : Int) ≤ 500 := by omega
            clear hd hI
            go_wp2
            go_roundw
            case rel => exact ⟨j + 1, max m d, by omega, by go_num, by rw [show (if m < d then (d : Int) else (m : Int)) = ((max m d : Nat) : Int) from by split <;> omega], HDn.out, trivial⟩
            case measure => simp [intOf]; omega
          · have j2 : ¬ (j : Int) < (tk : Int) := by omega
            have HDm : Hid (m + 1 = deep (ds.drop F)) := by
              show _ = _
              rw [HDj.out, HF.out, show j = tk from by omega]
            clear HDj
            have zz := BB2.out.size
            have HST := hide (World.ownsRow_made (e := 3) (size := 1) wr #[] 0 zz (by unfold maxLen; omega) rfl)
            have HU := hide ((own_take O3.out F hFl).alloc (.cells #[] 3))
            have HTL : Hid ((ds.take F).length = F) := by show _ = _; rw [List.length_take, ← HLL.out, Nat.min_eq_left hFl]
            have B4 := hide (BB2.out.alloc zz (.cells #[] 3))
            have HNS : Hid (∀ d ∈ ds.take F ++ [m + 1], 1 ≤ d ∧ d ≤ k + 1) := fun d hd => by
              rcases List.mem_append.1 hd with h | h
              · exact ⟨(HS.out d (List.mem_of_mem_take h)).1, Nat.le_succ_of_le (HS.out d (List.mem_of_mem_take h)).2⟩
              · rw [List.mem_singleton.1 h]
                exact ⟨by omega, hm25⟩
            have HND : Hid (depths ((x.map ptV).take (k + 1)) [] = some (ds.take F ++ [m + 1]).reverse) := by
              show _ = _
              rw [List.take_add_one, HY.out, depths_app, HD.out]
              show depths [ptV y] ds.reverse = _
              rw [depths_step, HSt.out, ← HDm.out]
              rfl
            have HFL : Hid ((ds.take F ++ [m + 1]).length = F + 1) := by
              show _ = _
              rw [List.length_append, HTL.out]; rfl
            have HFK : Hid (F + 1 ≤ k + 1) := by show _ ≤ _; omega
            have m5 : (m : Int) ≤ 500 := by omega
            clear HD
            go_wp2_with (at_builtin; go_must (first
              | (refine wpList_append_ints (by rfl) _ _ (by rfl) w.heap.size 0 (.slice (some ⟨wr.heap.size, 0, none⟩) 0 0) [] (by rfl) HST.out w.heap.size (.slice da F dcap) (ds.take F) (by rfl) (by rw [HTL.out]; exact HU.out) (by rw [HTL.out]; omega) B4.out.size ?_; intro v5 w5 hown5 hgrow5; have O5 := hide hown5; have B5 := hide (B4.out.grown hgrow5 B4.out.size (fun r hr => (HST.out.lt r hr).1)); clear hown5 hgrow5)
              | (refine wpList_append_own _ (by rfl) _ _ 77 (by rfl) w.heap.size 3 i0 (.int .i64 0) 1 8 Tryz.underlying77 hi hz0 hz1 hz2 rfl (by decide) v5 _ _ (by rfl) (O5.out.alloc _) ⟨w5.heap.size, 0, none⟩ 1 1 [.int .i64 ((m : Int) + 1)] (by rfl) (by rfl) (one_cell w5 ((m : Int) + 1)) (by intro u hu; simp at hu; subst hu; rfl) (by unfold maxLen; rw [HTL.out]; omega) (by rw [HTL.out]; omega) (by rw [World.size_alloc]; have := B5.out.size; omega) ?_; intro dv3 w3 hown3 hgrow3 _)))
            have B3 := hide ((B5.out.alloc B5.out.size _).grown hgrow3 (by rw [World.size_alloc]; have := B5.out.size; omega) (fun r hr => (O5.out.lt r hr).1))
            have O6 : Hid (w3.ownsRow w.heap.size 3 1 dv3 (ds.take F ++ [m + 1]).length (intC (ds.take F ++ [m + 1]))) := by
              show World.ownsRow _ _ _ _ _ _ _
              rw [HFL.out]
              rw [show intC (ds.take F ++ [m + 1]) = [] ++ intC (ds.take F) ++ [.int .i64 ((m : Int) + 1)] from by simp [intC]]
              have h := hown3
              rw [HTL.out, Nat.zero_add] at h
              exact h
            clear hown3 hgrow3
            go_wp2
            go_roundw
            case rel => exact ⟨k + 1, ds.take F ++ [m + 1], dv3, by omega, by go_num, rfl, O6.out, by rw [HFL.out]; exact HFK.out, HND.out, HNS.out, B3.out⟩
            case measure => simp [intOf]; omega
    · obtain rfl : k = N := by omega
      have htk : (x.map ptV).take k = x.map ptV := List.take_of_length_le (by rw [List.length_map, ← HN.out]; exact Nat.le_refl _)
      have hd := HD.out
      rw [htk] at hd
      have dl : (ds.length : Int) ≤ 500 := by omega
      by_cases h1 : ds.length = 1
      · match ds, h1 with
        | [d0], _ =>
          have HE : Hid (depth (x.map ptV) = d0) := depth_good hd
          obtain ⟨g, dcap', cur, hsv, hgb, hgh, hgc, _, hgs, hgt⟩ : ∃ g c' cur, (Value.slice da [d0].length dcap) = .slice (some ⟨g, 0, none⟩) 1 c' ∧ _ := by
            rcases O.out.2 with ⟨_, h0⟩ | h
            · exact absurd h0 Nat.one_ne_zero
            · exact h
          injection hsv with e1 e2 e3
          subst e1 e3
          have c9 : wr.cell? ⟨g, 0, none⟩ = some (.int .i64 (d0 : Int)) := by
            rw [O.out.cellAt 0 Nat.one_pos]; rfl
          clear htk hd HD HS O hgb hgh hgs hgt
          go_wp2
          go_ret
          exact ⟨by rw [HE.out]; rfl, HB.out⟩
      · have HE : Hid (depth (x.map ptV) = 0) := depth_one hd h1
        have i1 : ((ds.length : Int) == 1) = false := by rw [beq_eq_false_iff_ne]; omega
        clear htk hd HD HS O h1
        generalize ds.length = L at *
        go_wp2
        go_ret
        exact ⟨by rw [HE.out]; rfl, HB.out⟩
end Go.Proofs.YtkicbmjjbnblfaaGreatDoor
