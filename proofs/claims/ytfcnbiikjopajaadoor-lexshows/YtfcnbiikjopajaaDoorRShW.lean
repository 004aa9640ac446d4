/- The contract of the document's show (one token). -/
import Derived.Test.YtfcnbiikjopajaaDoorRDgW
import Derived.Test.YtfcnbiikjopajaaDoorRShX
namespace Go.Proofs.YtfcnbiikjopajaaDoor
open Go.RowKit
theorem kept1 {w w2 : World} {cs : Array Value} {ty : TypeId} (hb : Below w.heap.size w w2) (u : World) (hu : w.heap[u.heap.size]? = some (.cells cs ty (0, 0))) (i : Nat) (v : Value) (h : cs[i]? = some v) : w2.cell? ⟨u.heap.size, i, none⟩ = some v := by
  have hlt : u.heap.size < w.heap.size := (Array.getElem?_eq_some_iff.1 hu).1
  rw [hb.cell (p := ⟨u.heap.size, i, none⟩) hlt, Lib.cell_of_heap hu, h]
theorem two_old (w : World) (A B : Obj) : ((w.alloc A).alloc B).drew.heap[w.heap.size]? = some A := by
  show ((w.alloc A).alloc B).heap[w.heap.size]? = some A
  rw [Lib.alloc_old (w.alloc A) B w.heap.size (by rw [World.size_alloc]; omega)]
  exact heap_alloc_new w A
theorem two_new (w : World) (A B : Obj) : ((w.alloc A).alloc B).drew.heap[(w.alloc A).heap.size]? = some B := heap_alloc_new (w.alloc A) B
theorem one_new (w : World) (A : Obj) : (w.alloc A).drew.heap[w.heap.size]? = some A := heap_alloc_new w A
theorem kept_al {w2 : World} {b i : Nat} {v : Value} (h : w2.cell? ⟨b, i, none⟩ = some v) : ∀ o, (w2.alloc o).cell? ⟨b, i, none⟩ = some v := fun _ => (World.cell?_alloc_lt _ _ _ (World.block_lt_of_cell? w2 _ h)).trans h
theorem one_below {w w2 : World} {A : Obj} (hb : Below (w.alloc A).drew.heap.size (w.alloc A).drew w2) : Hid (Below w.heap.size w w2) := by
  have b1 : Below w.heap.size w (w.alloc A).drew := ((Below.refl w.heap.size w).alloc (Nat.le_refl _) A).drew
  exact b1.trans (hb.mono b1.size)
theorem two_below {w w2 : World} {A B : Obj} (hb : Below ((w.alloc A).alloc B).drew.heap.size ((w.alloc A).alloc B).drew w2) : Hid (Below w.heap.size w w2) := by
  have b0 := (Below.refl w.heap.size w).alloc (Nat.le_refl _) A
  have b1 : Below w.heap.size w ((w.alloc A).alloc B).drew := (b0.alloc b0.size B).drew
  exact b1.trans (hb.mono b1.size)
theorem size_one (w : World) (A : Obj) : (w.alloc A).heap.size = w.heap.size + 1 := World.size_alloc w A
theorem showT_num (n ty : Int) : showT ⟨2, [], n, ty⟩ = (if ty = 0 then
      (if n < 0 then (if -2147483648 ≤ n then some ([49, 54, 35] ++ hex8 (n + 4294967296).toNat) else none)
       else if n ≤ 2147483648 then some (dec n.natAbs) else none)
     else if ty = 4 then (if 0 ≤ n ∧ n < 2147483648 then some ([84, 35] ++ (dec n.natAbs ++ [109, 115])) else none)
     else if ty = 1 ∨ ty = 2 ∨ ty = 3 then (if fitL ty n then some (tyName ty ++ (35 :: signedL n)) else none)
     else none) := by
  unfold showT
  simp only []
  rw [if_pos ⟨trivial, trivial⟩]
set_option maxRecDepth 100000 in
set_option maxHeartbeats 3200000 in
theorem rshow_ty1 (n at_ : Int) (hf : fitL 1 n = true) (w : World) : Calls Tryd.prog 33 #[.agg #[.int .i64 2, .string ⟨#[]⟩, .int .i64 n, .int .i64 1, .int .i64 at_]] w fun e w' => (∃ v, e = .returned v ∧ ShOut ⟨2, [], n, 1⟩ v) ∧ Below w.heap.size w w' := by
  have HE := hide (showT_num n 1)
  rw [if_neg (by decide), if_neg (by decide), if_pos (by decide), hf, if_pos rfl] at HE
  have c := fun W => rfits_any 1 n (by decide) (by decide) W
  rw [hf] at c
  have hr := fit_range5 hf
  have cs := fun W => rsigned_any n (by omega) (by omega) W
  have HL := hide (signedL_len n)
  clear hr hf
  have hD : ∃ D : ByteArray, D = ⟨(signedL n).toArray⟩ := ⟨_, rfl⟩
  obtain ⟨D, hD⟩ := hD
  rw [← hD] at cs
  have hb0 : Op.stringOp .add ⟨#[66, 79, 79, 76]⟩ ⟨#[35]⟩ = pure (.string ⟨(([66, 79, 79, 76] : Bs) ++ [35]).toArray⟩) := text_add [66, 79, 79, 76] [35] (by decide)
  have ha : Op.stringOp .add ⟨(([66, 79, 79, 76] : Bs) ++ [35]).toArray⟩ ⟨(signedL n).toArray⟩ = pure (.string ⟨((([66, 79, 79, 76] : Bs) ++ [35]) ++ signedL n).toArray⟩) := text_add (([66, 79, 79, 76] : Bs) ++ [35]) (signedL n) (by have := HL.out; simp; omega)
  obtain ⟨R, hR⟩ : ∃ R : ByteArray, R = (⟨((([66, 79, 79, 76] : Bs) ++ [35]) ++ signedL n).toArray⟩ : ByteArray) := ⟨_, rfl⟩
  rw [← hD, ← hR] at ha
  have HR : Hid (showT ⟨2, [], n, 1⟩ = some R.data.toList) := by
    show _ = _
    rw [HE.out, hR]; simp [tyName]
  generalize (⟨((([66, 79, 79, 76] : Bs) ++ [35])).toArray⟩ : ByteArray) = T1 at *
  clear hR hD HE HL
  go_enter Tryd.func33, Tryd.ntmps33
  go_wp2_with fail
  refine (c _).mono ?_
  rintro e w1 ⟨rfl, hw1⟩
  subst hw1
  clear c
  go_upto_region 17 with fail
  go_region_with (go_at_call 55; refine (cs _).mono ?_; rintro e w2 ⟨rfl, hb2⟩; first | (have f3 := kept1 hb2 w (two_old w _ _) 3 (.int .i64 1) rfl; have g0 := kept1 hb2 (w.alloc _) (two_new w _ _) 0 (.string ⟨#[66, 79, 79, 76]⟩) rfl; rw [size_one] at g0; have BB := two_below hb2) | (have f3 := kept1 hb2 w (one_new w _) 3 (.int .i64 1) rfl; have f4 := kept_al f3; have BB := one_below hb2))
  all_goals (go_wp2; go_ret2; first | exact ⟨⟨_, rfl, R, true, rfl, fun _ => HR.out, fun h => (by cases h)⟩, BB.out⟩ | exact ⟨⟨_, rfl, R, true, rfl, fun _ => HR.out, fun h => (by cases h)⟩, BB.out.alloc BB.out.size _⟩)
set_option maxRecDepth 100000 in
set_option maxHeartbeats 3200000 in
theorem rshow_ty2 (n at_ : Int) (hf : fitL 2 n = true) (w : World) : Calls Tryd.prog 33 #[.agg #[.int .i64 2, .string ⟨#[]⟩, .int .i64 n, .int .i64 2, .int .i64 at_]] w fun e w' => (∃ v, e = .returned v ∧ ShOut ⟨2, [], n, 2⟩ v) ∧ Below w.heap.size w w' := by
  have HE := hide (showT_num n 2)
  rw [if_neg (by decide), if_neg (by decide), if_pos (by decide), hf, if_pos rfl] at HE
  have c := fun W => rfits_any 2 n (by decide) (by decide) W
  rw [hf] at c
  have hr := fit_range5 hf
  have cs := fun W => rsigned_any n (by omega) (by omega) W
  have HL := hide (signedL_len n)
  clear hr hf
  have hD : ∃ D : ByteArray, D = ⟨(signedL n).toArray⟩ := ⟨_, rfl⟩
  obtain ⟨D, hD⟩ := hD
  rw [← hD] at cs
  have hb0 : Op.stringOp .add ⟨#[73, 78, 84]⟩ ⟨#[35]⟩ = pure (.string ⟨(([73, 78, 84] : Bs) ++ [35]).toArray⟩) := text_add [73, 78, 84] [35] (by decide)
  have ha : Op.stringOp .add ⟨(([73, 78, 84] : Bs) ++ [35]).toArray⟩ ⟨(signedL n).toArray⟩ = pure (.string ⟨((([73, 78, 84] : Bs) ++ [35]) ++ signedL n).toArray⟩) := text_add (([73, 78, 84] : Bs) ++ [35]) (signedL n) (by have := HL.out; simp; omega)
  obtain ⟨R, hR⟩ : ∃ R : ByteArray, R = (⟨((([73, 78, 84] : Bs) ++ [35]) ++ signedL n).toArray⟩ : ByteArray) := ⟨_, rfl⟩
  rw [← hD, ← hR] at ha
  have HR : Hid (showT ⟨2, [], n, 2⟩ = some R.data.toList) := by
    show _ = _
    rw [HE.out, hR]; simp [tyName]
  generalize (⟨((([73, 78, 84] : Bs) ++ [35])).toArray⟩ : ByteArray) = T1 at *
  clear hR hD HE HL
  go_enter Tryd.func33, Tryd.ntmps33
  go_wp2_with fail
  refine (c _).mono ?_
  rintro e w1 ⟨rfl, hw1⟩
  subst hw1
  clear c
  go_upto_region 17 with fail
  go_region_with (go_at_call 55; refine (cs _).mono ?_; rintro e w2 ⟨rfl, hb2⟩; first | (have f3 := kept1 hb2 w (two_old w _ _) 3 (.int .i64 2) rfl; have g0 := kept1 hb2 (w.alloc _) (two_new w _ _) 1 (.string ⟨#[73, 78, 84]⟩) rfl; rw [size_one] at g0; have BB := two_below hb2) | (have f3 := kept1 hb2 w (one_new w _) 3 (.int .i64 2) rfl; have f4 := kept_al f3; have BB := one_below hb2))
  all_goals (go_wp2; go_ret2; first | exact ⟨⟨_, rfl, R, true, rfl, fun _ => HR.out, fun h => (by cases h)⟩, BB.out⟩ | exact ⟨⟨_, rfl, R, true, rfl, fun _ => HR.out, fun h => (by cases h)⟩, BB.out.alloc BB.out.size _⟩)
set_option maxRecDepth 100000 in
set_option maxHeartbeats 3200000 in
theorem rshow_ty3 (n at_ : Int) (hf : fitL 3 n = true) (w : World) : Calls Tryd.prog 33 #[.agg #[.int .i64 2, .string ⟨#[]⟩, .int .i64 n, .int .i64 3, .int .i64 at_]] w fun e w' => (∃ v, e = .returned v ∧ ShOut ⟨2, [], n, 3⟩ v) ∧ Below w.heap.size w w' := by
  have HE := hide (showT_num n 3)
  rw [if_neg (by decide), if_neg (by decide), if_pos (by decide), hf, if_pos rfl] at HE
  have c := fun W => rfits_any 3 n (by decide) (by decide) W
  rw [hf] at c
  have hr := fit_range5 hf
  have cs := fun W => rsigned_any n (by omega) (by omega) W
  have HL := hide (signedL_len n)
  clear hr hf
  have hD : ∃ D : ByteArray, D = ⟨(signedL n).toArray⟩ := ⟨_, rfl⟩
  obtain ⟨D, hD⟩ := hD
  rw [← hD] at cs
  have hb0 : Op.stringOp .add ⟨#[68, 73, 78, 84]⟩ ⟨#[35]⟩ = pure (.string ⟨(([68, 73, 78, 84] : Bs) ++ [35]).toArray⟩) := text_add [68, 73, 78, 84] [35] (by decide)
  have ha : Op.stringOp .add ⟨(([68, 73, 78, 84] : Bs) ++ [35]).toArray⟩ ⟨(signedL n).toArray⟩ = pure (.string ⟨((([68, 73, 78, 84] : Bs) ++ [35]) ++ signedL n).toArray⟩) := text_add (([68, 73, 78, 84] : Bs) ++ [35]) (signedL n) (by have := HL.out; simp; omega)
  obtain ⟨R, hR⟩ : ∃ R : ByteArray, R = (⟨((([68, 73, 78, 84] : Bs) ++ [35]) ++ signedL n).toArray⟩ : ByteArray) := ⟨_, rfl⟩
  rw [← hD, ← hR] at ha
  have HR : Hid (showT ⟨2, [], n, 3⟩ = some R.data.toList) := by
    show _ = _
    rw [HE.out, hR]; simp [tyName]
  generalize (⟨((([68, 73, 78, 84] : Bs) ++ [35])).toArray⟩ : ByteArray) = T1 at *
  clear hR hD HE HL
  go_enter Tryd.func33, Tryd.ntmps33
  go_wp2_with fail
  refine (c _).mono ?_
  rintro e w1 ⟨rfl, hw1⟩
  subst hw1
  clear c
  go_upto_region 17 with fail
  go_region_with (go_at_call 55; refine (cs _).mono ?_; rintro e w2 ⟨rfl, hb2⟩; first | (have f3 := kept1 hb2 w (two_old w _ _) 3 (.int .i64 3) rfl; have g0 := kept1 hb2 (w.alloc _) (two_new w _ _) 2 (.string ⟨#[68, 73, 78, 84]⟩) rfl; rw [size_one] at g0; have BB := two_below hb2) | (have f3 := kept1 hb2 w (one_new w _) 3 (.int .i64 3) rfl; have f4 := kept_al f3; have BB := one_below hb2))
  all_goals (go_wp2; go_ret2; first | exact ⟨⟨_, rfl, R, true, rfl, fun _ => HR.out, fun h => (by cases h)⟩, BB.out⟩ | exact ⟨⟨_, rfl, R, true, rfl, fun _ => HR.out, fun h => (by cases h)⟩, BB.out.alloc BB.out.size _⟩)
set_option maxRecDepth 100000 in
set_option maxHeartbeats 3200000 in
theorem rshow_num (n ty at_ : Int) (h0 : -9223372036854775808 ≤ n) (h1 : n ≤ 9223372036854775807) (w : World) : Calls Tryd.prog 33 #[.agg #[.int .i64 2, .string ⟨#[]⟩, .int .i64 n, .int .i64 ty, .int .i64 at_]] w fun e w' => (∃ v, e = .returned v ∧ ShOut ⟨2, [], n, ty⟩ v) ∧ Below w.heap.size w w' := by
  have HE := hide (showT_num n ty)
  have B0 := hide ((Below.refl w.heap.size w).alloc (Nat.le_refl _) (.cells #[.int .i64 2, .string ⟨#[]⟩, .int .i64 n, .int .i64 ty, .int .i64 at_] 41))
  by_cases hty : ty = 0
  · subst hty
    rw [if_pos rfl] at HE
    by_cases hn : n < 0
    · rw [if_pos hn] at HE
      have c := fun W => rhex_any n W
      obtain ⟨m, hm⟩ : ∃ m : Nat, m = (n % 4294967296).toNat := ⟨_, rfl⟩
      rw [← hm] at c
      have ha : Op.stringOp .add ⟨#[49, 54, 35]⟩ ⟨(hex8 m).toArray⟩ = pure (.string ⟨([49, 54, 35] ++ hex8 m).toArray⟩) := text_add [49, 54, 35] (hex8 m) (by simp [hex8])
      obtain ⟨R, hR⟩ : ∃ R : ByteArray, R = (⟨(([49, 54, 35] : Bs) ++ hex8 m).toArray⟩ : ByteArray) := ⟨_, rfl⟩
      rw [← hR] at ha
      have HR := hide hR
      have HF : Hid (-2147483648 ≤ n → showT ⟨2, [], n, 0⟩ = some R.data.toList) := fun h => by
        rw [HE.out, if_pos h, hR, hm, show n % 4294967296 = n + 4294967296 from by omega]
      have HN : Hid (¬ -2147483648 ≤ n → showT ⟨2, [], n, 0⟩ = none) := fun h => by rw [HE.out, if_neg h]
      generalize (⟨(hex8 m).toArray⟩ : ByteArray) = H at *
      clear hR hm HE
      go_enter Tryd.func33, Tryd.ntmps33
      go_wp2_with fail
      refine (c _).mono ?_
      rintro e w1 ⟨rfl, hb1⟩
      have B1 := hide (B0.out.trans (hb1.mono B0.out.size))
      clear c hb1
      go_wp2
      go_ret2
      exact ⟨⟨_, rfl, R, decide (-2147483648 ≤ n), rfl, fun h => HF.out (of_decide_eq_true h), fun h => HN.out (by have := of_decide_eq_false h; omega)⟩, B1.out⟩
    · rw [if_neg hn] at HE
      have c := fun W => rDigits_any n.natAbs (by omega) W
      rw [show ((n.natAbs : Nat) : Int) = n from by omega] at c
      obtain ⟨R, hR⟩ : ∃ R : ByteArray, R = (⟨(dec n.natAbs).toArray⟩ : ByteArray) := ⟨_, rfl⟩
      rw [← hR] at c
      have HF : Hid (n ≤ 2147483648 → showT ⟨2, [], n, 0⟩ = some R.data.toList) := fun h => by rw [HE.out, if_pos h, hR]
      have HN : Hid (¬ n ≤ 2147483648 → showT ⟨2, [], n, 0⟩ = none) := fun h => by rw [HE.out, if_neg h]
      clear hR HE
      go_enter Tryd.func33, Tryd.ntmps33
      go_wp2_with fail
      refine (c _).mono ?_
      rintro e w1 ⟨rfl, hb1⟩
      have B1 := hide (B0.out.trans (hb1.mono B0.out.size))
      clear c hb1
      go_wp2
      go_ret2
      exact ⟨⟨_, rfl, R, decide (n ≤ 2147483648), rfl, fun h => HF.out (of_decide_eq_true h), fun h => HN.out (by have := of_decide_eq_false h; omega)⟩, B1.out⟩
  · rw [if_neg hty] at HE
    by_cases h4 : ty = 4
    · subst h4
      rw [if_pos rfl] at HE
      by_cases hn : n < 0
      · rw [if_neg (by omega)] at HE
        go_enter Tryd.func33, Tryd.ntmps33
        go_wp2
        go_ret2
        exact ⟨⟨_, rfl, _, false, rfl, fun h => (by cases h), fun _ => HE.out⟩, B0.out⟩
      · have c := fun W => rDigits_any n.natAbs (by omega) W
        rw [show ((n.natAbs : Nat) : Int) = n from by omega] at c
        have hl := repF_len chL 10 20 n.natAbs
        have ha : Op.stringOp .add ⟨#[84, 35]⟩ ⟨(dec n.natAbs).toArray⟩ = pure (.string ⟨([84, 35] ++ dec n.natAbs).toArray⟩) := text_add [84, 35] (dec n.natAbs) (by unfold dec; simp; omega)
        have hb : Op.stringOp .add ⟨([84, 35] ++ dec n.natAbs).toArray⟩ ⟨#[109, 115]⟩ = pure (.string ⟨(([84, 35] ++ dec n.natAbs) ++ [109, 115]).toArray⟩) := text_add ([84, 35] ++ dec n.natAbs) [109, 115] (by unfold dec; simp; omega)
        obtain ⟨R, hR⟩ : ∃ R : ByteArray, R = (⟨((([84, 35] : Bs) ++ dec n.natAbs) ++ [109, 115]).toArray⟩ : ByteArray) := ⟨_, rfl⟩
        rw [← hR] at hb
        have HF : Hid (n < 2147483648 → showT ⟨2, [], n, 4⟩ = some R.data.toList) := fun h => by rw [HE.out, if_pos ⟨by omega, h⟩, hR]; simp
        have HN : Hid (¬ n < 2147483648 → showT ⟨2, [], n, 4⟩ = none) := fun h => by rw [HE.out, if_neg (fun q => h q.2)]
        generalize (⟨(([84, 35] : Bs) ++ dec n.natAbs).toArray⟩ : ByteArray) = R1 at *
        generalize (⟨(dec n.natAbs).toArray⟩ : ByteArray) = D at *
        clear hR HE hl
        go_enter Tryd.func33, Tryd.ntmps33
        go_wp2_with fail
        refine (c _).mono ?_
        rintro e w1 ⟨rfl, hb1⟩
        have B1 := hide (B0.out.trans (hb1.mono B0.out.size))
        clear c hb1
        go_wp2
        go_ret2
        exact ⟨⟨_, rfl, R, decide (n < 2147483648), rfl, fun h => HF.out (of_decide_eq_true h), fun h => HN.out (by have := of_decide_eq_false h; omega)⟩, B1.out⟩
    · rw [if_neg h4] at HE
      by_cases h123 : ty = 1 ∨ ty = 2 ∨ ty = 3
      · rw [if_pos h123] at HE
        have c := fun W => rfits_any ty n (by omega) (by omega) W
        cases hf : fitL ty n with
        | false =>
          rw [hf, if_neg (by decide)] at HE
          rw [hf] at c
          rcases h123 with rfl | rfl | rfl
          · go_enter Tryd.func33, Tryd.ntmps33
            go_wp2_with fail
            refine (c _).mono ?_
            rintro e w1 ⟨rfl, hw1⟩
            subst hw1
            go_wp2
            go_ret2
            exact ⟨⟨_, rfl, _, false, rfl, fun h => (by cases h), fun _ => HE.out⟩, B0.out⟩
          · go_enter Tryd.func33, Tryd.ntmps33
            go_wp2_with fail
            refine (c _).mono ?_
            rintro e w1 ⟨rfl, hw1⟩
            subst hw1
            go_wp2
            go_ret2
            exact ⟨⟨_, rfl, _, false, rfl, fun h => (by cases h), fun _ => HE.out⟩, B0.out⟩
          · go_enter Tryd.func33, Tryd.ntmps33
            go_wp2_with fail
            refine (c _).mono ?_
            rintro e w1 ⟨rfl, hw1⟩
            subst hw1
            go_wp2
            go_ret2
            exact ⟨⟨_, rfl, _, false, rfl, fun h => (by cases h), fun _ => HE.out⟩, B0.out⟩
        | true =>
          clear HE c B0
          rcases h123 with rfl | rfl | rfl
          · exact rshow_ty1 n at_ hf w
          · exact rshow_ty2 n at_ hf w
          · exact rshow_ty3 n at_ hf w
      · rw [if_neg h123] at HE
        have k1 : ¬ ty = 1 := fun h => h123 (.inl h)
        have k2 : ¬ ty = 2 := fun h => h123 (.inr (.inl h))
        have k3 : ¬ ty = 3 := fun h => h123 (.inr (.inr h))
        clear h123
        go_enter Tryd.func33, Tryd.ntmps33
        go_wp2
        go_ret2
        exact ⟨⟨_, rfl, _, false, rfl, fun h => (by cases h), fun _ => HE.out⟩, B0.out⟩
theorem rshow_v (x : Tv) (h0 : -9223372036854775808 ≤ x.n) (h1 : x.n ≤ 9223372036854775807) (w : World) : Calls Tryd.prog 33 #[.agg #[.int .i64 x.k, .string x.s, .int .i64 x.n, .int .i64 x.t, .int .i64 x.at_]] w fun e w' => (∃ v, e = .returned v ∧ ShOut (tkV x) v) ∧ Below w.heap.size w w' := by
  obtain ⟨k, S, n, ty, at_⟩ := x
  simp only [] at h0 h1 ⊢
  have key : ∀ s : Bs, Calls Tryd.prog 33 #[.agg #[.int .i64 k, .string ⟨s.toArray⟩, .int .i64 n, .int .i64 ty, .int .i64 at_]] w fun e w' => (∃ v, e = .returned v ∧ ShOut ⟨k, s, n, ty⟩ v) ∧ Below w.heap.size w w' := fun s => by
    by_cases hk : k = 2 ∧ s = []
    · obtain ⟨rfl, rfl⟩ := hk
      exact rshow_num n ty at_ h0 h1 w
    · by_cases hb : (k = 1 ∨ k = 3) ∧ n = 0 ∧ ty = 0 ∧ s ≠ [] ∧ s.length ≤ 24
      · obtain ⟨q1, rfl, rfl, q2, q3⟩ := hb
        exact rshow_txt k s at_ q1 q2 q3 w
      · exact rshow_bad k s n ty at_ hk hb w
  have h := key S.data.toList
  rw [text_back] at h
  exact h
end Go.Proofs.YtfcnbiikjopajaaDoor
