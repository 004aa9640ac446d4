/- DdW | DeW | N4Leaf | N4Wr | N4FitW -/
import Derived.Test.YtldjiieckddhkaaGreatDoorMg7
import Derived.Test.YtldjiieckddhkaaGreatDoorMg5
import Derived.Test.YtldjiieckddhkaaGreatDoorProg
import Derived.Deep.QuietTactic
import Derived.BigQuiet
namespace Go.Proofs.YtldjiieckddhkaaGreatDoor
open Go.RowKit
set_option maxRecDepth 100000 in
theorem isSingle_any (s : ByteArray) (t l i d : Int) (w : World) (hg : Glo w) : Calls Tryz.prog 170 #[.agg #[.string s, .int .i64 t, .int .i64 l, .int .i64 i, .int .i64 d]] w fun e w' => e = .returned (.bool (decide (l = 0) && fit6 t 0)) ∧ Below w.heap.size w w' := by
  have B0 := hide ((Below.refl w.heap.size w).alloc (Nat.le_refl _) (.cells #[.string s, .int .i64 t, .int .i64 l, .int .i64 i, .int .i64 d] 50))
  have c := isValue_any t _ (hg.below B0.out hg.lt).span
  clear hg
  by_cases h : l = 0
  · subst h
    go_enter Tryz.func170, Tryz.ntmps170
    go_wp2_with fail
    refine c.mono ?_
    rintro e w1 ⟨rfl, rfl⟩
    go_wp2
    go_ret
    exact ⟨ret_bool (by simp), B0.out⟩
  · have h0 : (l == 0) = false := by rw [beq_eq_false_iff_ne]; exact h
    have HD := hide (decide_eq_false h)
    clear h c
    go_enter Tryz.func170, Tryz.ntmps170
    go_wp2
    go_ret
    exact ⟨ret_bool (by rw [HD.out]; simp), B0.out⟩
set_option maxRecDepth 100000 in
theorem lenMayBe_any (s : ByteArray) (t l i d : Int) (w : World) (hg : Glo w) : Calls Tryz.prog 168 #[.agg #[.string s, .int .i64 t, .int .i64 l, .int .i64 i, .int .i64 d]] w fun e w' => e = .returned (.bool (decide (l = 0) || (decide (0 < l) && (decide (l ≤ 32) && fit6 t 0)))) ∧ Below w.heap.size w w' := by
  have B0 := hide ((Below.refl w.heap.size w).alloc (Nat.le_refl _) (.cells #[.string s, .int .i64 t, .int .i64 l, .int .i64 i, .int .i64 d] 50))
  have c := isValue_any t _ (hg.below B0.out hg.lt).span
  clear hg
  by_cases h : l = 0
  · subst h
    clear c
    go_enter Tryz.func168, Tryz.ntmps168
    go_wp2
    go_ret
    exact ⟨ret_bool (by simp), B0.out⟩
  · have h0 : (l == 0) = false := by rw [beq_eq_false_iff_ne]; exact h
    have HD := hide (decide_eq_false h)
    by_cases h1 : 0 < l
    · by_cases h2 : l ≤ 32
      · have HE := hide (And.intro (decide_eq_true h1) (decide_eq_true h2))
        clear h
        go_enter Tryz.func168, Tryz.ntmps168
        go_wp2_with fail
        refine c.mono ?_
        rintro e w1 ⟨rfl, rfl⟩
        go_wp2
        go_ret
        exact ⟨ret_bool (by rw [HD.out, HE.out.1, HE.out.2]; simp), B0.out⟩
      · have HE := hide (decide_eq_false h2)
        have h2' : 32 < l := by omega
        clear h c h2
        go_enter Tryz.func168, Tryz.ntmps168
        go_wp2
        go_ret
        exact ⟨ret_bool (by rw [HD.out, HE.out]; simp), B0.out⟩
    · have HE := hide (decide_eq_false h1)
      have h1' : l ≤ 0 := by omega
      clear h c h1
      go_enter Tryz.func168, Tryz.ntmps168
      go_wp2
      go_ret
      exact ⟨ret_bool (by rw [HD.out, HE.out]; simp), B0.out⟩
def fstB (t l i : Int) : Bool := if decide (l = 0) && fit6 t 0 then fit6 t i && (decide (t ≠ 4) || decide (0 ≤ i)) else decide (i = 0)
set_option maxRecDepth 100000 in
theorem firstMayBe_any (s : ByteArray) (t l i d : Int) (w : World) (hg : Glo w) : Calls Tryz.prog 169 #[.agg #[.string s, .int .i64 t, .int .i64 l, .int .i64 i, .int .i64 d]] w fun e w' => e = .returned (.bool (fstB t l i)) ∧ Below w.heap.size w w' := by
  have B0 := hide ((Below.refl w.heap.size w).alloc (Nat.le_refl _) (.cells #[.string s, .int .i64 t, .int .i64 l, .int .i64 i, .int .i64 d] 50))
  have hg1 := hg.below B0.out hg.lt
  have c := isSingle_any s t l i d _ hg1
  have C2 : Hid (∀ W, Below (w.heap.size + 1) (w.alloc (.cells #[.string s, .int .i64 t, .int .i64 l, .int .i64 i, .int .i64 d] 50)) W → Calls Tryz.prog 19 #[.int .i64 t, .int .i64 i] W fun e w' => e = .returned (.bool (fit6 t i)) ∧ w' = W) := fun W hW => fits_all t i W (hg1.below hW (by have := hg.lt; omega)).span
  have HFB : Hid (fstB t l i = if decide (l = 0) && fit6 t 0 then fit6 t i && (decide (t ≠ 4) || decide (0 ≤ i)) else decide (i = 0)) := rfl
  clear hg hg1
  generalize fstB t l i = FB at *
  generalize (decide (l = 0) && fit6 t 0) = SB at *
  go_enter Tryz.func169, Tryz.ntmps169
  go_wp2_with fail
  refine c.mono ?_
  rintro e w1 ⟨rfl, hb⟩
  clear c
  have hb' : Below (w.heap.size + 1) (w.alloc (.cells #[.string s, .int .i64 t, .int .i64 l, .int .i64 i, .int .i64 d] 50)) w1 := by rw [World.size_alloc] at hb; exact hb
  have c2 := C2.out w1 hb'
  have HB := hide (B0.out.trans (hb'.mono (by omega)))
  have d1 : w1.cell? ⟨w.heap.size, 1, none⟩ = some (.int .i64 t) := (hb'.cell (p := ⟨w.heap.size, 1, none⟩) (by show w.heap.size < w.heap.size + 1; omega)).trans (by rw [Lib.cell_of_heap (heap_alloc_new w _)]; rfl)
  have d3 : w1.cell? ⟨w.heap.size, 3, none⟩ = some (.int .i64 i) := (hb'.cell (p := ⟨w.heap.size, 3, none⟩) (by show w.heap.size < w.heap.size + 1; omega)).trans (by rw [Lib.cell_of_heap (heap_alloc_new w _)]; rfl)
  clear hb hb' C2 B0
  cases SB with
  | false =>
    clear c2
    go_wp2
    go_ret
    exact ⟨ret_bool (by rw [HFB.out, Bool.eq_iff_iff]; simp), HB.out⟩
  | true =>
    go_wp2_with fail
    refine c2.mono ?_
    rintro e w2 ⟨rfl, rfl⟩
    clear c2
    cases hf : fit6 t i with
    | false =>
      rw [hf] at HFB
      go_wp2
      go_ret
      exact ⟨ret_bool (by rw [HFB.out, Bool.eq_iff_iff]; simp), HB.out⟩
    | true =>
      rw [hf] at HFB
      by_cases h4 : t = 4
      · subst h4
        go_wp2
        go_ret
        exact ⟨ret_bool (by rw [HFB.out, Bool.eq_iff_iff]; simp), HB.out⟩
      · have hn : (t != 4) = true := by rw [bne_iff_ne]; exact h4
        have HD := hide (decide_eq_true h4)
        clear h4
        go_wp2
        go_ret
        exact ⟨ret_bool (by rw [HFB.out, HD.out]; simp), HB.out⟩
theorem varB_eq (s : ByteArray) (t l i d : Int) : varB ⟨s.data.toList, t, l, i, d⟩ = (nameB s.data.toList && (tyW t && ((decide (0 ≤ d) && decide (d ≤ 2)) && ((decide (l = 0) || (decide (0 < l) && (decide (l ≤ 32) && fit6 t 0))) && (fstB t l i && (decide (d = 0) || (decide (l = 0) && fit6 t 0))))))) := rfl
theorem wRes_form (o : Option (Bs × Int)) : ∃ u, wRes o = .tuple #[.string u, .bool o.isSome] := by
  cases o with
  | none => exact ⟨_, rfl⟩
  | some r => exact ⟨_, rfl⟩
set_option maxRecDepth 100000 in
set_option maxHeartbeats 1600000 in
theorem varMayBe_any (s : ByteArray) (t l i d : Int) (w : World) (hg : Glo w) : Calls Tryz.prog 157 #[.agg #[.string s, .int .i64 t, .int .i64 l, .int .i64 i, .int .i64 d]] w fun e w' => e = .returned (.bool (varB ⟨s.data.toList, t, l, i, d⟩)) ∧ Below w.heap.size w w' := by
  obtain ⟨W0, hW0⟩ : ∃ W0, W0 = w.alloc (.cells #[.string s, .int .i64 t, .int .i64 l, .int .i64 i, .int .i64 d] 50) := ⟨_, rfl⟩
  have B0 : Below w.heap.size w W0 := by rw [hW0]; exact (Below.refl w.heap.size w).alloc (Nat.le_refl _) _
  have hz : W0.heap.size = w.heap.size + 1 := by rw [hW0, World.size_alloc]
  have hg0 := hg.below B0 hg.lt
  have hcell : ∀ j v, (#[.string s, .int .i64 t, .int .i64 l, .int .i64 i, .int .i64 d] : Array Value)[j]? = some v → W0.cell? ⟨w.heap.size, j, none⟩ = some v := fun j v h => by
    rw [hW0, Lib.cell_of_heap (heap_alloc_new w _)]; exact h
  have G : Hid (∀ W, Below (w.heap.size + 1) W0 W → Glo W ∧ Below w.heap.size w W ∧ (∀ j v, (#[.string s, .int .i64 t, .int .i64 l, .int .i64 i, .int .i64 d] : Array Value)[j]? = some v → W.cell? ⟨w.heap.size, j, none⟩ = some v)) := fun W hW =>
    ⟨hg0.below hW (by have := hg.lt; omega), B0.trans (hW.mono (by omega)), fun j v h => (hW.cell (p := ⟨w.heap.size, j, none⟩) (by show w.heap.size < w.heap.size + 1; omega)).trans (hcell j v h)⟩
  have HV := hide (varB_eq s t l i d)
  generalize varB ⟨s.data.toList, t, l, i, d⟩ = VB at *
  have c1 := wordOfType_any t W0 hg0.tw
  obtain ⟨u1, hu1⟩ := wRes_form (twFind t)
  rw [tw_some] at hu1
  rw [hu1] at c1
  obtain ⟨u2, hu2⟩ := wRes_form (swFind d)
  rw [sw_some] at hu2
  have HU2 := hide hu2
  have BZ := hide (Below.refl (w.heap.size + 1) W0)
  rw [hz] at c1
  have HW0 := hide hW0
  have HZ := hide hz
  clear hcell hg0 B0 hg hu1 hu2 hz
  go_enter Tryz.func157, Tryz.ntmps157
  go_wp2_with fail
  rw [← HW0.out]
  refine c1.mono ?_
  rintro e w1 ⟨rfl, hb1⟩
  have BZ1 := hide hb1
  clear c1 hb1
  obtain ⟨g1, -, k1⟩ := G.out w1 BZ1.out
  have q4 := k1 4 _ rfl
  have c2 := wordOfDir_any d w1 g1.sw
  rw [HU2.out] at c2
  clear g1 k1
  go_wp2_with fail
  refine c2.mono ?_
  rintro e w2 ⟨rfl, hb2⟩
  have BZ2 := hide (BZ1.out.trans (hb2.mono (HZ.out ▸ BZ1.out.size)))
  clear c2 hb2 q4 BZ1
  obtain ⟨g2, -, k2⟩ := G.out w2 BZ2.out
  have q0 := k2 0 _ rfl
  have c3 := eName_any s.data.toList w2 g2.kw
  rw [text_back] at c3
  clear g2 k2
  generalize tyW t = TW at *
  generalize (decide (0 ≤ d) && decide (d ≤ 2)) = DW at *
  generalize nameB s.data.toList = NB at *
  go_wp2_with fail
  refine c3.mono ?_
  rintro e w3 ⟨rfl, rfl⟩
  clear c3 q0
  cases hno : (NB && (TW && DW)) with
  | false =>
    have HF : Hid (VB = false) := by
      show _ = _
      rw [HV.out]
      cases NB <;> cases TW <;> cases DW <;> first | rfl | exact absurd hno (by decide)
    have HB := hide (G.out _ BZ2.out).2.1
    clear HV
    cases NB <;> cases TW <;> cases DW
    all_goals first
      | exact absurd hno (by decide)
      | (clear hno; go_wp2; go_ret; exact ⟨ret_bool HF.out.symm, HB.out⟩)
  | true =>
    obtain ⟨rfl, rfl, rfl⟩ : NB = true ∧ TW = true ∧ DW = true := by cases NB <;> cases TW <;> cases DW <;> first | exact ⟨rfl, rfl, rfl⟩ | exact absurd hno (by decide)
    clear hno
    obtain ⟨g3, -, k3⟩ := G.out _ BZ2.out
    have q0 := k3 0 _ rfl
    have q1 := k3 1 _ rfl
    have q2 := k3 2 _ rfl
    have q3 := k3 3 _ rfl
    have q4 := k3 4 _ rfl
    have c4 := lenMayBe_any s t l i d _ g3
    clear k3 g3
    generalize (decide (l = 0) || (decide (0 < l) && (decide (l ≤ 32) && fit6 t 0))) = LB at *
    go_wp2_with fail
    refine c4.mono ?_
    rintro e w4 ⟨rfl, hb4⟩
    have BZ4 := hide (BZ2.out.trans (hb4.mono (HZ.out ▸ BZ2.out.size)))
    clear c4 hb4 q0 q1 q2 q3 q4 BZ2
    cases LB with
    | false =>
      have HF : Hid (VB = false) := by show _ = _; rw [HV.out]; simp
      have HB := hide (G.out _ BZ4.out).2.1
      go_wp2; go_ret; exact ⟨ret_bool HF.out.symm, HB.out⟩
    | true =>
      obtain ⟨g3, -, k3⟩ := G.out _ BZ4.out
      have q0 := k3 0 _ rfl
      have q1 := k3 1 _ rfl
      have q2 := k3 2 _ rfl
      have q3 := k3 3 _ rfl
      have q4 := k3 4 _ rfl
      have c5 := firstMayBe_any s t l i d _ g3
      clear k3 g3
      generalize fstB t l i = FB at *
      go_wp2_with fail
      refine c5.mono ?_
      rintro e w5 ⟨rfl, hb5⟩
      have BZ5 := hide (BZ4.out.trans (hb5.mono (HZ.out ▸ BZ4.out.size)))
      clear c5 hb5 q0 q1 q2 q3 q4 BZ4
      cases FB with
      | false =>
        have HF : Hid (VB = false) := by show _ = _; rw [HV.out]; simp
        have HB := hide (G.out _ BZ5.out).2.1
        go_wp2; go_ret; exact ⟨ret_bool HF.out.symm, HB.out⟩
      | true =>
        obtain ⟨g3, -, k3⟩ := G.out _ BZ5.out
        have q0 := k3 0 _ rfl
        have q1 := k3 1 _ rfl
        have q2 := k3 2 _ rfl
        have q3 := k3 3 _ rfl
        have q4 := k3 4 _ rfl
        by_cases hd : d = 0
        · have HF : Hid (VB = true) := by show _ = _; rw [HV.out, decide_eq_true hd]; rfl
          have HB := hide (G.out _ BZ5.out).2.1
          clear g3 k3 HV
          subst hd
          go_wp2; go_ret; exact ⟨ret_bool HF.out.symm, HB.out⟩
        · have c6 := isSingle_any s t l i d _ g3
          have hd' : (d == 0) = false := by rw [beq_eq_false_iff_ne]; exact hd
          have HF : Hid (VB = (decide (l = 0) && fit6 t 0)) := by show _ = _; rw [HV.out, decide_eq_false hd]; simp
          clear k3 g3 HV hd
          generalize (decide (l = 0) && fit6 t 0) = SB at *
          go_wp2_with fail
          refine c6.mono ?_
          rintro e w6 ⟨rfl, hb6⟩
          have HB := hide (G.out _ (BZ5.out.trans (hb6.mono (HZ.out ▸ BZ5.out.size)))).2.1
          clear c6 hb6 q0 q1 q2 q3 q4
          go_wp2; go_ret; exact ⟨ret_bool (by rw [HF.out]), HB.out⟩
set_option maxRecDepth 100000 in
set_option maxHeartbeats 1600000 in
theorem varsMayBe_any (v : Value) (l : List Vv) (w : World) (hL : VLst w v l) (hlen : l.length ≤ 4398046510976) (hg : Glo w) : Calls Tryz.prog 136 #[v] w fun e w' => e = .returned (.bool (decide (l.length ≤ 64) && (l.map vrV).all varB)) ∧ Below w.heap.size w w' := by
  obtain ⟨a, b, off, cap, rfl, hA, hI⟩ := hL
  by_cases h5 : 64 < l.length
  · have HE : Hid ((decide (l.length ≤ 64) && (l.map vrV).all varB) = false) := by show _ = _; rw [decide_eq_false (by omega)]; rfl
    have i1 : (64 : Int) < (l.length : Int) := by omega
    have i2 : (l.length : Int) ≤ 4398046510976 := by omega
    clear hA hI hg h5 hlen
    generalize (decide (l.length ≤ 64) && (l.map vrV).all varB) = R at *
    generalize l.length = N at *
    go_enter Tryz.func136, Tryz.ntmps136
    go_wp2
    go_ret
    exact ⟨ret_bool HE.out.symm, Below.refl _ _⟩
  have HE : Hid ((decide (l.length ≤ 64) && (l.map vrV).all varB) = (l.map vrV).all varB) := by show _ = _; rw [decide_eq_true (by omega)]; rfl
  have HA := hide hA
  have HI := hide hI
  have HG := hide hg
  generalize (decide (l.length ≤ 64) && (l.map vrV).all varB) = R at *
  obtain ⟨N, hN⟩ : ∃ N, N = l.length := ⟨_, rfl⟩
  have HN := hide hN
  rw [← hN] at h5 ⊢
  have n5 : ¬ (64 : Int) < (N : Int) := by omega
  have n0 : (0 : Int) ≤ (N : Int) := by omega
  clear hN hA hI hg hlen
  go_enter Tryz.func136, Tryz.ntmps136
  go_wp2_with fail
  go_loopw [10] (fun i wr => ∃ (k : Nat), k ≤ N ∧ i = .int .i64 (k : Int) ∧ Hid ((∀ p ∈ (l.map vrV).take k, varB p = true) ∧ Below w.heap.size w wr)) (fun i _ => N - (intOf i).toNat)
  case atStart => exact ⟨0, by omega, rfl, fun p hp => by simp at hp, Below.refl _ _⟩
  case round =>
    obtain ⟨k, hk, rfl, hh⟩ := hrel
    have HM := hide hh.out.1
    have HB := hide hh.out.2
    clear hh
    by_cases hlt : k < N
    · have j1 : (k : Int) < (N : Int) := by omega
      have j0 : (0 : Int) ≤ (k : Int) := by omega
      obtain ⟨y, hy⟩ : ∃ y, l[k]? = some y := ⟨_, List.getElem?_eq_getElem (by rw [← HN.out]; exact hlt)⟩
      have HY : Hid ((l.map vrV)[k]? = some (vrV y)) := by show _ = _; rw [List.getElem?_map, hy]; rfl
      obtain ⟨hbw, rfl⟩ := HA.out (by rw [← HN.out]; omega)
      obtain ⟨q0, q1, q2, q3, q4⟩ := HI.out k y hy
      have c0 := (HB.out.cell (p := ⟨b, off + k * 5, none⟩) hbw).trans q0
      have c1 := (HB.out.cell (p := ⟨b, off + k * 5 + 1, none⟩) hbw).trans q1
      have c2 := (HB.out.cell (p := ⟨b, off + k * 5 + 2, none⟩) hbw).trans q2
      have c3 := (HB.out.cell (p := ⟨b, off + k * 5 + 3, none⟩) hbw).trans q3
      have c4 := (HB.out.cell (p := ⟨b, off + k * 5 + 4, none⟩) hbw).trans q4
      clear q0 q1 q2 q3 q4 hy
      have zr := HB.out.size
      have B1 := HB.out.alloc zr (.cells #[.string y.s, .int .i64 y.ty, .int .i64 y.len, .int .i64 y.init, .int .i64 y.dir] 50)
      have m2 := varMayBe_any y.s y.ty y.len y.init y.dir _ (HG.out.below B1 HG.out.lt)
      have HV : Hid (varB ⟨y.s.data.toList, y.ty, y.len, y.init, y.dir⟩ = varB (vrV y)) := rfl
      generalize varB ⟨y.s.data.toList, y.ty, y.len, y.init, y.dir⟩ = VB at *
      go_wp2_with fail
      refine m2.mono ?_
      rintro e w2 ⟨rfl, hb2⟩
      have BB2 := hide (B1.trans (hb2.mono B1.size))
      clear m2 hb2 B1 c0 c1 c2 c3 c4
      cases VB with
      | false =>
        have HF : Hid (R = false) := by
          show _ = _
          rw [HE.out]
          cases e : (l.map vrV).all varB with
          | false => rfl
          | true => exact absurd (List.all_eq_true.1 e _ (List.mem_of_getElem? HY.out)) (by rw [← HV.out]; decide)
        go_wp2
        go_ret
        exact ⟨ret_bool HF.out.symm, BB2.out⟩
      | true =>
        have HM2 : Hid (∀ p ∈ (l.map vrV).take (k + 1), varB p = true) := by
          intro p hp
          rw [List.take_add_one, HY.out, List.mem_append] at hp
          rcases hp with hp | hp
          · exact HM.out p hp
          · rw [List.mem_singleton.1 hp]; exact HV.out.symm
        go_wp2
        go_roundw
        case rel => exact ⟨k + 1, by omega, by go_num, HM2.out, BB2.out⟩
        case measure => simp [intOf]; omega
    · obtain rfl : k = N := by omega
      have HF : Hid (R = true) := by
        show _ = _
        rw [HE.out, List.all_eq_true]
        intro p hp
        exact HM.out p (by rw [List.take_of_length_le (by rw [List.length_map, ← HN.out]; omega)]; exact hp)
      go_wp2
      go_ret
      exact ⟨ret_bool HF.out.symm, HB.out⟩
end Go.Proofs.YtldjiieckddhkaaGreatDoor
namespace Go.Proofs.YtldjiieckddhkaaGreatDoor
open Go.RowKit
def slLen (v : Value) : Nat := match v with
  | .slice _ n _ => n
  | _ => 0
set_option maxRecDepth 100000 in
set_option maxHeartbeats 1600000 in
theorem count_nil (w : World) : Calls Tryz.prog 158 #[.int .i64 400, .slice none 0 0] w fun e w' => e = .returned (.int .i64 0) ∧ Below w.heap.size w w' := by
  have B0 := hide ((Below.refl w.heap.size w).alloc (Nat.le_refl _) (.cells #[.slice none 0 0] 119))
  have hc : (w.alloc (.cells #[.slice none 0 0] 119)).cell? ⟨w.heap.size, 0, none⟩ = some (.slice none 0 0) := by rw [Lib.cell_of_heap (heap_alloc_new w _)]; rfl
  go_enter Tryz.func158, Tryz.ntmps158
  go_wp2
  generalize w.alloc (.cells #[.slice none 0 0] 119) = W0 at *
  go_loopw [5, 6] (fun n wv wr => n = .int .i64 0 ∧ wr = W0 ∧ (wv = .slice (some ⟨w.heap.size, 0, none⟩) 1 1 ∨ wv = .slice (some ⟨w.heap.size, 0, none⟩) 0 1)) (fun _ wv _ => slLen wv)
  case atStart => exact ⟨rfl, rfl, .inl rfl⟩
  case round =>
    obtain ⟨rfl, rfl, rfl | rfl⟩ := hrel
    · go_wp2
      go_loopw [36, 6] (fun i v wr' => i = .int .i64 0 ∧ wr' = wr ∧ v = .slice (some ⟨w.heap.size, 0, none⟩) 0 1) (fun _ _ _ => 0)
      case atStart => exact ⟨rfl, rfl, rfl⟩
      case round =>
        obtain ⟨rfl, rfl, rfl⟩ := hrel
        go_wp2
        go_roundw
        case rel => simp
        case measure => simp [slLen]
    · go_wp2
      go_ret
      exact ⟨rfl, B0.out⟩
set_option maxRecDepth 100000 in
theorem allMay_nil (w : World) : Calls Tryz.prog 159 #[.slice none 0 0, .int .i64 1] w fun e w' => e = .returned (.bool true) ∧ w' = w := by
  go_enter Tryz.func159, Tryz.ntmps159
  go_wp2
  go_loopw [9] (fun i wr' => i = .int .i64 0 ∧ wr' = w) (fun _ _ => 0)
  case atStart => exact ⟨rfl, rfl⟩
  case round =>
    obtain ⟨rfl, rfl⟩ := hrel
    go_wp2
    go_ret
    exact ⟨rfl, rfl⟩
theorem stmtCheck_nil (w : World) : Calls Tryz.prog 137 #[.slice none 0 0] w fun e w' => e = .returned (.int .i64 0) ∧ Below w.heap.size w w' := by
  have c := count_nil w
  go_enter Tryz.func137, Tryz.ntmps137
  go_wp2_with fail
  refine c.mono ?_
  rintro e w1 ⟨rfl, hb⟩
  have HB := hide hb
  have c2 := allMay_nil w1
  clear c hb
  go_wp2_with fail
  refine c2.mono ?_
  rintro e w2 ⟨rfl, rfl⟩
  go_wp2
  go_ret
  exact ⟨rfl, HB.out⟩
theorem name_p : nameB [80] = true := by decide +kernel
set_option maxRecDepth 100000 in
set_option maxHeartbeats 1600000 in
theorem declCheck_any (v : Value) (l : List Vv) (w : World) (hL : VLst w v l) (hlen : l.length ≤ 4398046510976) (hg : Glo w) :
    Calls Tryz.prog 101 #[.agg #[.string ⟨#[80]⟩, v, .slice none 0 0]] w fun e w' => e = .returned (.int .i64 (if (decide (l.length ≤ 64) && (l.map vrV).all varB) then 0 else 80)) ∧ Below w.heap.size w w' := by
  obtain ⟨W0, hW0⟩ : ∃ W0, W0 = w.alloc (.cells #[.string ⟨#[80]⟩, v, .slice none 0 0] 121) := ⟨_, rfl⟩
  have B0 : Below w.heap.size w W0 := by rw [hW0]; exact (Below.refl w.heap.size w).alloc (Nat.le_refl _) _
  have hz : W0.heap.size = w.heap.size + 1 := by rw [hW0, World.size_alloc]
  have hg0 := hg.below B0 hg.lt
  have hcell : ∀ j u, (#[.string ⟨#[80]⟩, v, .slice none 0 0] : Array Value)[j]? = some u → W0.cell? ⟨w.heap.size, j, none⟩ = some u := fun j u h => by
    rw [hW0, Lib.cell_of_heap (heap_alloc_new w _)]; exact h
  have c1 := eName_any [80] W0 hg0.kw
  rw [name_p] at c1
  have c2 := varsMayBe_any v l W0 (hL.below B0 (Nat.le_refl _)) hlen hg0
  obtain ⟨a, n, cp, rfl⟩ : ∃ a n cp, v = .slice a n cp := by obtain ⟨a, b, off, cap, h, -⟩ := hL; exact ⟨a, _, cap, h⟩
  have q0 := hcell 0 _ rfl
  have q1 := hcell 1 _ rfl
  have q2 := hcell 2 _ rfl
  have HZ := hide hz
  have HB := hide B0
  have HW0 := hide hW0
  clear hcell hg0 hg hz hL hlen B0 hW0
  generalize (decide (l.length ≤ 64) && (l.map vrV).all varB) = R at *
  go_enter Tryz.func101, Tryz.ntmps101
  go_wp2_with fail
  rw [← HW0.out]
  refine c1.mono ?_
  rintro e w1 ⟨rfl, rfl⟩
  clear c1
  go_wp2_with fail
  refine c2.mono ?_
  rintro e w2 ⟨rfl, hb2⟩
  have HB2 := hide (HB.out.trans (hb2.mono HB.out.size))
  have q2' : w2.cell? ⟨w.heap.size, 2, none⟩ = some (.slice none 0 0) := (hb2.cell (p := ⟨w.heap.size, 2, none⟩) (by show w.heap.size < _; have := HZ.out; omega)).trans q2
  have c3 := stmtCheck_nil w2
  clear c2 hb2 q0 q1 q2
  cases R with
  | false =>
    clear c3
    go_wp2
    go_ret
    exact ⟨rfl, HB2.out⟩
  | true =>
    go_wp2_with fail
    refine c3.mono ?_
    rintro e w3 ⟨rfl, hb3⟩
    have HB3 := hide (HB2.out.trans (hb3.mono HB2.out.size))
    clear c3 hb3 q2'
    go_wp2
    go_ret
    exact ⟨rfl, HB3.out⟩
end Go.Proofs.YtldjiieckddhkaaGreatDoor
namespace Go.Proofs.YtldjiieckddhkaaGreatDoor.Four
open Go.RowKit
theorem hide {p : Prop} (h : p) : Hid p := h
theorem ret_bool {a b : Bool} (h : a = b) : Ending.returned (.bool a) = .returned (.bool b) := by rw [h]
theorem ret_int {k : IntKind} {a b : Int} (h : a = b) : Ending.returned (.int k a) = .returned (.int k b) := by rw [h]
set_option maxRecDepth 100000 in
theorem isType_any (t : Int) (w : World) : Calls Tryz.prog 32 #[.int .i64 t] w fun e w' => e = .returned (.bool (tyB t)) ∧ w' = w := by
  have E := hide (show tyB t = (decide (1 ≤ t) && decide (t ≤ 4)) from rfl)
  by_cases h1 : 1 ≤ t
  · by_cases h2 : t ≤ 4
    · rw [E.out, decide_eq_true h1, decide_eq_true h2]
      clear E
      go_enter Tryz.func32, Tryz.ntmps32
      go_wp2
      go_ret
      exact ⟨rfl, rfl⟩
    · rw [E.out, decide_eq_true h1, decide_eq_false h2]
      clear E
      go_enter Tryz.func32, Tryz.ntmps32
      go_wp2
      go_ret
      exact ⟨rfl, rfl⟩
  · rw [E.out, decide_eq_false h1]
    clear E
    go_enter Tryz.func32, Tryz.ntmps32
    go_wp2
    go_ret
    exact ⟨rfl, rfl⟩
set_option maxRecDepth 100000 in
theorem type_any (t : Int) (w : World) : Calls Tryz.prog 126 #[.int .i64 t] w fun e w' => e = .returned (.bool (tyB t)) ∧ w' = w := by
  have E := hide (show tyB t = (decide (1 ≤ t) && decide (t ≤ 4)) from rfl)
  by_cases h1 : 1 ≤ t
  · by_cases h2 : t ≤ 4
    · rw [E.out, decide_eq_true h1, decide_eq_true h2]
      clear E
      go_enter Tryz.func126, Tryz.ntmps126
      go_wp2
      go_ret
      exact ⟨rfl, rfl⟩
    · rw [E.out, decide_eq_true h1, decide_eq_false h2]
      clear E
      go_enter Tryz.func126, Tryz.ntmps126
      go_wp2
      go_ret
      exact ⟨rfl, rfl⟩
  · rw [E.out, decide_eq_false h1]
    clear E
    go_enter Tryz.func126, Tryz.ntmps126
    go_wp2
    go_ret
    exact ⟨rfl, rfl⟩
set_option maxRecDepth 100000 in
theorem truth_any (b : Bool) (w : World) : Calls Tryz.prog 67 #[.bool b] w fun e w' => e = .returned (.int .i64 (flagN b)) ∧ w' = w := by
  cases b
  all_goals
    go_enter Tryz.func67, Tryz.ntmps67
    go_wp2
    go_ret
    exact ⟨rfl, rfl⟩
set_option maxRecDepth 100000 in
theorem flag_any (b : Bool) (w : World) : Calls Tryz.prog 155 #[.bool b] w fun e w' => e = .returned (.int .i64 (flagN b)) ∧ w' = w := by
  cases b
  all_goals
    go_enter Tryz.func155, Tryz.ntmps155
    go_wp2
    go_ret
    exact ⟨rfl, rfl⟩
set_option maxRecDepth 100000 in
theorem size_any (t : Int) (w : World) : Calls Tryz.prog 127 #[.int .i64 t] w fun e w' => e = .returned (.int .i64 (szN t)) ∧ w' = w := by
  by_cases h : t = 2
  · subst h
    go_enter Tryz.func127, Tryz.ntmps127
    go_wp2
    go_ret
    exact ⟨rfl, rfl⟩
  · have E := hide (show szN t = 4294967296 by unfold szN; rw [if_neg h])
    go_enter Tryz.func127, Tryz.ntmps127
    go_wp2
    go_ret
    exact ⟨by rw [E.out]; rfl, rfl⟩
end Go.Proofs.YtldjiieckddhkaaGreatDoor.Four
namespace Go.Proofs.YtldjiieckddhkaaGreatDoor.Four
open Go.RowKit
theorem and_one (n : Int) : bits .and .i64 n 1 = n % 2 := by
  show IntKind.i64.wrap ((BitVec.ofInt 64 n &&& BitVec.ofInt 64 1).toNat : Int) = _
  rw [BitVec.toNat_and, ofInt_mod, show (BitVec.ofInt 64 1).toNat = 1 from rfl, Nat.and_one_is_mod]
  simp [IntKind.wrap, IntKind.bits, IntKind.signed]
  omega
theorem w64 {n : Int} (h1 : -9223372036854775808 ≤ n) (h2 : n < 9223372036854775808) : wrap64 n = n := by
  unfold wrap64; omega
theorem tmod_up (n m : Int) (hm : m = 65536 ∨ m = 4294967296) : (wrap64 (n.tmod m + m)).tmod m = n % m := by
  have h : n.tmod m = n % m ∨ n.tmod m = n % m - m := by
    rcases Int.le_total 0 n with h0 | h0
    · left; exact Int.tmod_eq_emod_of_nonneg h0
    · have e : (-n).tmod m = -(n.tmod m) := Int.neg_tmod n m
      rw [Int.tmod_eq_emod_of_nonneg (show 0 ≤ -n by omega)] at e
      rcases hm with rfl | rfl <;> omega
  have h2 : 0 ≤ n.tmod m + m ∧ n.tmod m + m < 9223372036854775808 ∧ (n.tmod m + m) % m = n % m := by
    rcases hm with rfl | rfl <;> omega
  rw [w64 (by omega) (by omega), Int.tmod_eq_emod_of_nonneg h2.1, h2.2.2]
theorem wr_i16 (n : Int) : wrap64 (IntKind.i16.wrap n) = wrN 2 n := by
  have e : IntKind.i16.wrap n = wrN 2 n := by
    unfold wrN
    rw [if_neg (by decide), show szN 2 = 65536 from rfl]
    simp [IntKind.wrap, IntKind.bits, IntKind.signed]
  obtain ⟨a, b⟩ := wr_range (t := 2) (by decide) n
  rw [show szN 2 = 65536 from rfl] at a b
  rw [e, w64 (by omega) (by omega)]
theorem wr_i32 {t : Int} (h1 : t ≠ 1) (h2 : t ≠ 2) (n : Int) : wrap64 (wrap32 n) = wrN t n := by
  have es : szN t = 4294967296 := by unfold szN; rw [if_neg h2]
  have e : wrap32 n = wrN t n := by
    unfold wrN wrap32
    rw [if_neg h1, es]
    split <;> omega
  obtain ⟨a, b⟩ := wr_range (t := t) h1 n
  rw [es] at a b
  rw [e, w64 (by omega) (by omega)]
set_option maxRecDepth 100000 in
theorem wrapped_any (t n : Int) (w : World) : Calls Tryz.prog 34 #[.int .i64 t, .int .i64 n] w fun e w' => e = .returned (.int .i64 (wrN t n)) ∧ w' = w := by
  by_cases h1 : t = 1
  · subst h1
    have E := hide ((wr_one n).trans (and_one n).symm)
    go_enter Tryz.func34, Tryz.ntmps34
    go_wp2
    go_ret
    exact ⟨by rw [E.out]; rfl, rfl⟩
  · by_cases h2 : t = 2
    · subst h2
      have E := hide (wr_i16 n).symm
      clear h1
      go_enter Tryz.func34, Tryz.ntmps34
      go_wp2
      go_ret
      exact ⟨by rw [E.out]; rfl, rfl⟩
    · have E := hide (wr_i32 h1 h2 n).symm
      go_enter Tryz.func34, Tryz.ntmps34
      go_wp2
      go_ret
      exact ⟨by rw [E.out]; rfl, rfl⟩
set_option maxRecDepth 100000 in
theorem wrappedR_any (t n : Int) (w : World) : Calls Tryz.prog 130 #[.int .i64 t, .int .i64 n] w fun e w' => e = .returned (.int .i64 (wrN t n)) ∧ w' = w := by
  by_cases h1 : t = 1
  · subst h1
    have E := hide ((wr_one n).trans (and_one n).symm)
    go_enter Tryz.func130, Tryz.ntmps130
    go_wp2
    go_ret
    exact ⟨by rw [E.out]; rfl, rfl⟩
  · have c := size_any t
    have hs := sz_pos t
    have E := hide (show wrN t n = if szN t / 2 ≤ n % szN t then n % szN t - szN t else n % szN t by unfold wrN; rw [if_neg h1])
    generalize szN t = m at *
    have T := hide (tmod_up n m hs)
    rcases hs with rfl | rfl
    · go_enter Tryz.func130, Tryz.ntmps130
      go_wp2_with fail
      refine (c _).mono ?_
      rintro e w1 ⟨rfl, rfl⟩
      go_wp2
      · next h =>
        rw [T.out] at h
        go_ret
        exact ⟨by rw [E.out, if_pos (by omega), ← w64 (n := n % 65536 - 65536) (by omega) (by omega), ← T.out]; rfl, rfl⟩
      · next h =>
        rw [T.out] at h
        go_ret
        exact ⟨by rw [E.out, if_neg (by omega), ← T.out]; rfl, rfl⟩
    · go_enter Tryz.func130, Tryz.ntmps130
      go_wp2_with fail
      refine (c _).mono ?_
      rintro e w1 ⟨rfl, rfl⟩
      go_wp2
      · next h =>
        rw [T.out] at h
        go_ret
        exact ⟨by rw [E.out, if_pos (by omega), ← w64 (n := n % 4294967296 - 4294967296) (by omega) (by omega), ← T.out]; rfl, rfl⟩
      · next h =>
        rw [T.out] at h
        go_ret
        exact ⟨by rw [E.out, if_neg (by omega), ← T.out]; rfl, rfl⟩
end Go.Proofs.YtldjiieckddhkaaGreatDoor.Four
namespace Go.Proofs.YtldjiieckddhkaaGreatDoor.Four
open Go.RowKit
def Glo (w : World) : Prop := ∀ k (h : k < 10), w.cell? ⟨0, k, none⟩ = some (.int .i64 ([0, 0, 0, 1, -32768, 32767, -2147483648, 2147483647, -2147483648, 2147483647][k]'h))
theorem Glo.below {B : Nat} {w w' : World} (h : Glo w) (hb : Below B w w') (hB : 0 < B) : Glo w' := fun t ht => (hb.cell (p := ⟨0, t, none⟩) hB).trans (h t ht)
theorem Glo.lt {w : World} (h : Glo w) : 0 < w.heap.size := World.block_lt_of_cell? w _ (h 0 (by omega))
theorem fit_span (t n : Int) : fitB t n = (tyB t && (decide (([0, 0, -32768, -2147483648, -2147483648] : List Int).getD t.toNat 0 ≤ n) && decide (n ≤ ([0, 1, 32767, 2147483647, 2147483647] : List Int).getD t.toNat 0))) := by
  by_cases h1 : 1 ≤ t
  · by_cases h4 : t ≤ 4
    · have : t = 1 ∨ t = 2 ∨ t = 3 ∨ t = 4 := by omega
      rcases this with rfl | rfl | rfl | rfl
      · unfold fitB
        rw [if_pos rfl]
        show _ = (true && (decide ((0 : Int) ≤ n) && decide (n ≤ 1)))
        rw [Bool.eq_iff_iff]; simp; omega
      · unfold fitB
        rw [if_neg (by decide)]
        show (true && (decide (-(65536 / 2 : Int) ≤ n) && decide (n < 65536 / 2))) = (true && (decide ((-32768 : Int) ≤ n) && decide (n ≤ 32767)))
        rw [Bool.eq_iff_iff]; simp; omega
      all_goals
        unfold fitB
        rw [if_neg (by decide)]
        show (true && (decide (-(4294967296 / 2 : Int) ≤ n) && decide (n < 4294967296 / 2))) = (true && (decide ((-2147483648 : Int) ≤ n) && decide (n ≤ 2147483647)))
        rw [Bool.eq_iff_iff]; simp; omega
    · have e : tyB t = false := by unfold tyB; rw [decide_eq_false h4, Bool.and_false]
      unfold fitB; rw [if_neg (by omega), e]; rfl
  · have e : tyB t = false := by unfold tyB; rw [decide_eq_false h1]; rfl
    unfold fitB; rw [if_neg (by omega), e]; rfl
set_option maxRecDepth 100000 in
theorem fits_any (t n : Int) (w : World) (hg : Glo w) : Calls Tryz.prog 19 #[.int .i64 t, .int .i64 n] w fun e w' => e = .returned (.bool (fitB t n)) ∧ w' = w := by
  have E := hide (fit_span t n)
  have c := isType_any t
  by_cases ht : tyB t = true
  · rw [ht] at c
    rw [E.out, ht, Bool.true_and]
    have : t = 1 ∨ t = 2 ∨ t = 3 ∨ t = 4 := by
      unfold tyB at ht
      rw [Bool.and_eq_true] at ht
      have h1 := of_decide_eq_true ht.1
      have h2 := of_decide_eq_true ht.2
      omega
    have g0 := hg 2 (by omega)
    have g1 := hg 3 (by omega)
    have g2 := hg 4 (by omega)
    have g3 := hg 5 (by omega)
    have g4 := hg 6 (by omega)
    have g5 := hg 7 (by omega)
    have g6 := hg 8 (by omega)
    have g7 := hg 9 (by omega)
    clear E ht hg
    rcases this with rfl | rfl | rfl | rfl
    all_goals
      go_enter Tryz.func19, Tryz.ntmps19
      go_wp2_with fail
      refine (c _).mono ?_
      rintro e w1 ⟨rfl, rfl⟩
      go_wp2
    all_goals
      go_ret
      refine ⟨ret_bool ?_, rfl⟩
      simp
      omega
  · rw [Bool.not_eq_true] at ht
    rw [ht] at c
    rw [E.out, ht]
    clear E hg ht
    go_enter Tryz.func19, Tryz.ntmps19
    go_wp2_with fail
    refine (c _).mono ?_
    rintro e w1 ⟨rfl, rfl⟩
    go_wp2
    go_ret
    exact ⟨rfl, rfl⟩
end Go.Proofs.YtldjiieckddhkaaGreatDoor.Four
