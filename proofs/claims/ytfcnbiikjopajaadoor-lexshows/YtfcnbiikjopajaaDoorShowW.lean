/- The contract of lex.Show. -/
import Derived.Test.YtfcnbiikjopajaaDoorMgG
namespace Go.Proofs.YtfcnbiikjopajaaDoor
open Go.RowKit
set_option maxRecDepth 100000 in
set_option maxHeartbeats 3200000 in
theorem show_any (v : Value) (l : List Tv) (w : World) (hL : Lst w v l) (hcap : ∀ a n cap, v = .slice a n cap → n ≤ cap) (ho : OkV l) (hg : Glo w) (h3 : Lay3 w) :
    Calls Tryd.prog 16 #[v] w fun e w' => (∃ u, e = .returned u ∧ ShowOut (l.map tkV) u) ∧ Below w.heap.size w w' := by
  obtain ⟨a, b, off, cap, rfl, hA, hI⟩ := hL
  have hc := hcap _ _ _ rfl
  have hlen := ho.1
  rcases Nat.eq_zero_or_pos l.length with h0 | h0
  · have hl : l = [] := List.eq_nil_of_length_eq_zero h0
    subst hl
    clear hA hI ho hg h3 hc hcap hlen h0
    go_enter Tryd.func16, Tryd.ntmps16
    go_wp2
    go_ret2
    exact ⟨⟨_, rfl, .inl ⟨fun h => h.1 rfl, rfl⟩⟩, Below.refl _ _⟩
  have HA := hide hA
  have HI := hide hI
  have HO := hide ho.2
  have HG := hide hg
  have H3 := hide h3
  obtain ⟨N, hN⟩ : ∃ N, N = l.length := ⟨_, rfl⟩
  have HN := hide hN
  have HNt : Hid ((l.map tkV).length = N) := by show _ = _; rw [List.length_map, hN]
  rw [← hN] at h0 hlen hc ⊢
  have n0 : ¬ ((N : Int) - 1 < 0) := by omega
  have n1 : (N : Int) ≤ 4398046510976 := by omega
  clear hN hA hI ho hg h3 hcap hlen
  go_enter Tryd.func16, Tryd.ntmps16
  go_wp2_with fail
  go_loopw [17] (fun i wr => ∃ k : Nat, k ≤ N ∧ i = .int .i64 (k : Int) ∧ Hid ((∀ j, j < k → OkAt (l.map tkV) j) ∧ Below w.heap.size w wr)) (fun i _ => N - (intOf i).toNat)
  case atStart => exact ⟨0, by omega, rfl, fun j hj => absurd hj (Nat.not_lt_zero _), Below.refl _ _⟩
  case round =>
    obtain ⟨k, hk, rfl, hh⟩ := hrel
    have HB := hide hh.out.2
    by_cases hlt : k < N
    · have j1 : (k : Int) < (N : Int) := by omega
      have j0 : (0 : Int) ≤ (k : Int) := by omega
      obtain ⟨x, hx⟩ : ∃ x, l[k]? = some x := ⟨_, List.getElem?_eq_getElem (by rw [← HN.out]; exact hlt)⟩
      have hx' : (l.map tkV)[k]? = some (tkV x) := by rw [List.getElem?_map, hx]; rfl
      obtain ⟨hbw, rfl⟩ := HA.out (by rw [← HN.out]; omega)
      obtain ⟨q0, q1, q2, q3, q4⟩ := HI.out k x hx
      have c0 := (HB.out.cell (p := ⟨b, off + k * 5, none⟩) hbw).trans q0
      have c1 := (HB.out.cell (p := ⟨b, off + k * 5 + 1, none⟩) hbw).trans q1
      have c2 := (HB.out.cell (p := ⟨b, off + k * 5 + 2, none⟩) hbw).trans q2
      have c3 := (HB.out.cell (p := ⟨b, off + k * 5 + 3, none⟩) hbw).trans q3
      have c4 := (HB.out.cell (p := ⟨b, off + k * 5 + 4, none⟩) hbw).trans q4
      have hxo := HO.out x (List.mem_of_getElem? hx)
      have HX := hide hx'
      clear q0 q1 q2 q3 q4 hx hx'
      have zr := HB.out.size
      have ba := hide (HB.out.alloc zr (.cells #[.int .i64 x.k, .string x.s, .int .i64 x.n, .int .i64 x.t, .int .i64 x.at_] 41))
      have m1 := come_v x hxo.1 hxo.2.1 hxo.2.2 (wr.alloc (.cells #[.int .i64 x.k, .string x.s, .int .i64 x.n, .int .i64 x.t, .int .i64 x.at_] 41)) (HG.out.below ba.out HG.out.lt) (H3.out.below ba.out)
      have HC := hide (hh.out.1)
      clear hh hxo
      have HF : Hid (¬ (((tkV x).kind = 4 ↔ k + 1 = N) ∧ comeP (tkV x)) → ¬ Shows (l.map tkV)) := fun hn hs => hn (by
        have hj : k < (l.map tkV).length := by rw [HNt.out]; exact hlt
        have := hs.2 k hj
        have e : (l.map tkV)[k] = tkV x := Option.some.inj ((List.getElem?_eq_getElem hj).symm.trans HX.out)
        rw [e, HNt.out] at this
        exact this)
      have HT : Hid ((((tkV x).kind = 4 ↔ k + 1 = N) ∧ comeP (tkV x)) → ∀ j, j < k + 1 → OkAt (l.map tkV) j) := fun hp j hj => by
        rcases Nat.lt_or_ge j k with h | h
        · exact HC.out j h
        · have : j = k := by omega
          subst this
          intro hjl
          have e : (l.map tkV)[j] = tkV x := Option.some.inj ((List.getElem?_eq_getElem hjl).symm.trans HX.out)
          rw [e, HNt.out]
          exact hp
      obtain ⟨p, hp⟩ : ∃ p : Bool, (x.k == (4 : Int)) = p := ⟨_, rfl⟩
      obtain ⟨q, hq⟩ : ∃ q : Bool, ((k : Int) == (N : Int) - 1) = q := ⟨_, rfl⟩
      have HPQ : Hid (p = q ↔ ((tkV x).kind = 4 ↔ k + 1 = N)) := by
        show _ ↔ (x.k = 4 ↔ _)
        rw [← hp, ← hq, Bool.eq_iff_iff, beq_iff_eq, beq_iff_eq]
        have : ((k : Int) = (N : Int) - 1) ↔ k + 1 = N := by omega
        rw [this]
      by_cases hpq : p = q
      · have HP := hide (HPQ.out.1 hpq)
        subst hpq
        clear HPQ
        go_wp2_with fail
        refine m1.mono ?_
        rintro e w1 ⟨⟨bb, rfl, hbb⟩, hb1⟩
        have B1 : Hid (Below w.heap.size w w1) := ba.out.trans (hb1.mono ba.out.size)
        clear hb1 m1 c0 c1 c2 c3 c4 HB hp hq ba
        cases bb with
        | false =>
          have HE := hide (HF.out (fun h => absurd (hbb.2 h.2) (by decide)))
          clear HF HT hbb HP
          go_wp2
          go_ret2
          exact ⟨⟨_, rfl, .inl ⟨HE.out, rfl⟩⟩, B1.out⟩
        | true =>
          have HE := hide (HT.out ⟨HP.out, hbb.1 rfl⟩)
          clear HF HT hbb HP
          go_wp2
          go_roundw
          case rel => exact ⟨k + 1, by omega, by go_num, HE.out, B1.out⟩
          case measure => simp [intOf]; omega
      · have HE := hide (HF.out (fun h => hpq (HPQ.out.2 h.1)))
        have hpn : (p != q) = true := by simpa using hpq
        clear HF HT HPQ m1
        go_wp2
        go_ret2
        exact ⟨⟨_, rfl, .inl ⟨HE.out, rfl⟩⟩, ba.out⟩
    · obtain rfl : k = N := by omega
      have HS : Hid (Shows (l.map tkV)) := ⟨fun h => by rw [h] at HNt; exact absurd HNt.out (by simp; omega), fun j hj => hh.out.1 j (by rw [← HNt.out]; exact hj) hj⟩
      clear hh
      obtain ⟨hbw, rfl⟩ := HA.out (by rw [← HN.out]; omega)
      obtain ⟨ss, hss⟩ : ∃ ss, ss = (l.map tkV).dropLast.map shownK := ⟨_, rfl⟩
      have HSS := hide hss
      have HLS : Hid (ss.length = k - 1) := by show _ = _; rw [hss, List.length_map, List.length_dropLast, HNt.out]
      have hM : ∃ M : Nat, k = M + 1 := ⟨k - 1, by omega⟩
      obtain ⟨M, hM⟩ := hM
      have hM2 : (k : Int) - 1 = (M : Int) := by omega
      have i5 : (M : Int) ≤ (cap : Int) := by omega
      have i6 : (0 : Int) ≤ (M : Int) := by omega
      have i7 : (M : Int) ≤ 4398046510976 := by omega
      have zr := HB.out.size
      have BL : Hid (Lib.IsBuilderF 57 5 wr.heap.size wr.heap.size [] (wr.alloc (.cells #[.pointer none, .slice none 0 0] 57))) := Lib.IsBuilderF.of (Lib.fresh_isBuilder 57 5 wr)
      have B0 := hide (HB.out.alloc zr (.cells #[.pointer none, .slice none 0 0] 57))
      rw [hM2]
      clear hss
      go_wp2_with fail
      obtain ⟨Q, hQ⟩ : ∃ Q, Q = wr.heap.size := ⟨_, rfl⟩
      have HQ := hide hQ
      rw [← hQ] at BL zr ⊢
      have q0 : Q < (wr.alloc (.cells #[.pointer none, .slice none 0 0] 57)).heap.size := by rw [World.size_alloc]; omega
      clear hQ
      go_loopw [39] (fun i wx => ∃ j : Nat, j ≤ M ∧ i = .int .i64 (j : Int) ∧ Hid (Lib.IsBuilderF 57 5 Q Q (Lib.byteCells (joinB (ss.take j))) wx ∧ Below w.heap.size w wx ∧ (joinB (ss.take j)).length ≤ 65536 ∧ Q < wx.heap.size)) (fun i _ => M - (intOf i).toNat)
      case atStart => exact ⟨0, by omega, rfl, BL.out, B0.out, Nat.zero_le _, q0⟩
      case round =>
        clear BL B0 q0 HB
        obtain ⟨j, hj, rfl, hh⟩ := hrel
        have HB := hide hh.out.2.1
        have hq := hh.out.2.2.2
        have hj6 := hide hh.out.2.2.1
        have HBL := hide hh.out.1
        clear hh
        by_cases hlt : j < M
        · have j1 : (j : Int) < (M : Int) := by omega
          have j0 : (0 : Int) ≤ (j : Int) := by omega
          obtain ⟨x, hx⟩ : ∃ x, l[j]? = some x := ⟨_, List.getElem?_eq_getElem (by rw [← HN.out]; omega)⟩
          have hx' : (l.map tkV)[j]? = some (tkV x) := by rw [List.getElem?_map, hx]; rfl
          obtain ⟨q0, q1, q2, q3, q4⟩ := HI.out j x hx
          have c0 := (HB.out.cell (p := ⟨b, off + j * 5, none⟩) hbw).trans q0
          have c1 := (HB.out.cell (p := ⟨b, off + j * 5 + 1, none⟩) hbw).trans q1
          have c2 := (HB.out.cell (p := ⟨b, off + j * 5 + 2, none⟩) hbw).trans q2
          have c3 := (HB.out.cell (p := ⟨b, off + j * 5 + 3, none⟩) hbw).trans q3
          have c4 := (HB.out.cell (p := ⟨b, off + j * 5 + 4, none⟩) hbw).trans q4
          have hxo := HO.out x (List.mem_of_getElem? hx)
          have hjd : j < (l.map tkV).dropLast.length := by rw [List.length_dropLast, HNt.out]; omega
          have he : (l.map tkV).dropLast[j] = tkV x := by
            rw [List.getElem_dropLast]
            exact Option.some.inj ((List.getElem?_eq_getElem _).symm.trans hx')
          have HSX : Hid (showT (tkV x) = some (shownK (tkV x))) := by
            have := (showAll_eq (shows_split HS.out).2).2 _ (List.getElem_mem hjd)
            rw [he] at this
            exact this
          have hsl := show_len HSX.out
          have HTK : Hid (ss.take (j + 1) = ss.take j ++ [shownK (tkV x)]) := by
            show _ = _
            rw [List.take_add_one, HSS.out, List.getElem?_map, List.getElem?_eq_getElem hjd, he]
            rfl
          have HJ : Hid (joinB (ss.take (j + 1)) = if ss.take j = [] then shownK (tkV x) else joinB (ss.take j) ++ 32 :: shownK (tkV x)) := by
            show _ = _
            rw [HTK.out, joinB_add]
          have HTZ : Hid (ss.take j = [] ↔ j = 0) := by
            show _ ↔ _
            rw [List.take_eq_nil_iff, ← List.length_eq_zero_iff, HLS.out]
            omega
          clear q0 q1 q2 q3 q4 hx hx' hjd he HTK HSX
          have zr2 := HB.out.size
          have ba := hide (HB.out.alloc zr2 (.cells #[.int .i64 x.k, .string x.s, .int .i64 x.n, .int .i64 x.t, .int .i64 x.at_] 41))
          have bs := (Below.refl wr.heap.size wr).alloc (Nat.le_refl _) (.cells #[.int .i64 x.k, .string x.s, .int .i64 x.n, .int .i64 x.t, .int .i64 x.at_] 41)
          have HL := hide (isBldF_below HBL.out bs)
          have z1 : wr.heap.size < (wr.alloc (.cells #[.int .i64 x.k, .string x.s, .int .i64 x.n, .int .i64 x.t, .int .i64 x.at_] 41)).heap.size := by rw [World.size_alloc]; omega
          have e0 : (wr.alloc (.cells #[.int .i64 x.k, .string x.s, .int .i64 x.n, .int .i64 x.t, .int .i64 x.at_] 41)).heap[wr.heap.size]? = some (.cells #[.int .i64 x.k, .string x.s, .int .i64 x.n, .int .i64 x.t, .int .i64 x.at_] 41) := heap_alloc_new wr _
          have hj6' := hj6.out
          clear HBL bs
          by_cases hj0 : j = 0
          · have i9 : ¬ (0 : Int) < (j : Int) := by omega
            have HP : Hid (joinB (ss.take (j + 1)) = joinB (ss.take j) ++ shownK (tkV x)) := by
              show _ = _
              rw [HJ.out, if_pos (HTZ.out.2 hj0), HTZ.out.2 hj0]; rfl
            have hpl : (joinB (ss.take j)).length ≤ 65537 := by omega
            have q1 : Q < (wr.alloc (.cells #[.int .i64 x.k, .string x.s, .int .i64 x.n, .int .i64 x.t, .int .i64 x.at_] 41)).heap.size := Nat.lt_trans hq z1
            clear HJ HTZ z1 hj0
            go_upto_region 14 with fail
            obtain ⟨w1, hw1⟩ : ∃ w1, w1 = wr.alloc (.cells #[.int .i64 x.k, .string x.s, .int .i64 x.n, .int .i64 x.t, .int .i64 x.at_] 41) := ⟨_, rfl⟩
            rw [← hw1] at q1 e0 HL ba ⊢
            have B1 := ba
            have L1 := HL
            have d0 : w1.cell? ⟨wr.heap.size, 0, none⟩ = some (.int .i64 x.k) := by rw [Lib.cell_of_heap e0]; rfl
            have d1 : w1.cell? ⟨wr.heap.size, 1, none⟩ = some (.string x.s) := by rw [Lib.cell_of_heap e0]; rfl
            have d2 : w1.cell? ⟨wr.heap.size, 2, none⟩ = some (.int .i64 x.n) := by rw [Lib.cell_of_heap e0]; rfl
            have d3 : w1.cell? ⟨wr.heap.size, 3, none⟩ = some (.int .i64 x.t) := by rw [Lib.cell_of_heap e0]; rfl
            have d4 : w1.cell? ⟨wr.heap.size, 4, none⟩ = some (.int .i64 x.at_) := by rw [Lib.cell_of_heap e0]; rfl
            clear e0 HL ba c0 c1 c2 c3 c4 hw1
            go_wp2_with fail
            refine (shown_v x hxo.2.1 hxo.2.2 w1 (HG.out.below B1.out HG.out.lt) (H3.out.below B1.out)).mono ?_
            rintro e w2 ⟨rfl, hb2⟩
            have B2 := hide (B1.out.trans (hb2.mono B1.out.size))
            have L2 := isBldF_below L1.out hb2
            have q2 : Q < w2.heap.size := Nat.lt_of_lt_of_le q1 hb2.size
            clear hb2 d0 d1 d2 d3 d4 L1
            go_wp2_with fail
            refine (Tryd.writeString_k Q Q _ _ w2 L2 (by rw [Lib.byteCells_length, list_size]; omega) (Nat.le_of_lt q2)).mono ?_
            rintro e w3 ⟨rfl, L3, hb3, _⟩
            rw [strCells_text, ← byteCells_app, ← HP.out] at L3
            have B3 := hide (B2.out.trans (hb3.mono zr))
            have q3 : Q < w3.heap.size := Nat.lt_of_lt_of_le q2 hb3.size
            clear hb3 L2
            have LF : Lib.IsBuilderF 57 5 Q Q (Lib.byteCells (joinB (ss.take (j + 1)))) w3 := .inr L3
            have cl := Tryd.Builder_Len_f Q Q _ w3 LF
            rw [Lib.byteCells_length] at cl
            have LF2 := hide LF
            have hz : (joinB (ss.take (j + 1))).length ≤ 100000 := by rw [HP.out, List.length_append]; omega
            have HZ : Hid (∀ z, z = (joinB (ss.take (j + 1))).length → True) := fun _ _ => trivial
            clear LF L3 HZ
            go_wp2_with fail
            refine cl.mono ?_
            rintro e w4 ⟨rfl, rfl⟩
            by_cases hbig : 65536 < (joinB (ss.take (j + 1))).length
            · have i8 : (65536 : Int) < ((joinB (ss.take (j + 1))).length : Int) := by omega
              have HE : Hid (65536 < (joinB ss).length) := by
                have h := joinB_len (ss.drop (j + 1)) (ss.take (j + 1))
                rw [List.take_append_drop] at h
                exact Nat.lt_of_lt_of_le hbig h
              clear hbig hz cl LF2
              generalize ((joinB (ss.take (j + 1))).length : Int) = zz at *
              go_wp2
              go_ret2
              exact ⟨⟨_, rfl, .inr (.inl ⟨HS.out, by rw [← HSS.out]; exact HE.out, rfl⟩)⟩, B3.out⟩
            · have i8 : ¬ (65536 : Int) < ((joinB (ss.take (j + 1))).length : Int) := by omega
              have HE : Hid ((joinB (ss.take (j + 1))).length ≤ 65536) := by show _ ≤ _; omega
              clear hbig hz cl
              generalize ((joinB (ss.take (j + 1))).length : Int) = zz at *
              go_wp2
              go_roundw
              case rel => exact ⟨j + 1, by omega, by go_num, LF2.out, B3.out, HE.out, q3⟩
              case measure => simp [intOf]; omega
          · have i9 : (0 : Int) < (j : Int) := by omega
            have HP : Hid (joinB (ss.take (j + 1)) = (joinB (ss.take j) ++ [32]) ++ shownK (tkV x)) := by
              show _ = _
              rw [HJ.out, if_neg (fun h => hj0 (HTZ.out.1 h))]; simp
            clear HJ HTZ
            go_wp2_with fail
            refine (Tryd.writeByte_k Q Q _ 32 _ HL.out (by rw [Lib.byteCells_length]; omega) (by rw [World.size_alloc]; omega)).mono ?_
            rintro e w1 ⟨rfl, L0, hb1, hk1⟩
            have e1 := hk1 wr.heap.size _ e0 (by simp; omega) (fun c fz h => by cases h)
            have L1 : Hid (Lib.IsBuilderF 57 5 Q Q (Lib.byteCells (joinB (ss.take j) ++ [32])) w1) := by
              show Lib.IsBuilderF _ _ _ _ _ _
              rw [byteCells_app]
              exact .inr L0
            have B1 := hide (ba.out.trans (hb1.mono zr))
            have q1 : Q < w1.heap.size := Nat.lt_of_lt_of_le (Nat.lt_trans hq z1) hb1.size
            have hpl : (joinB (ss.take j) ++ [32]).length ≤ 65537 := by rw [List.length_append]; simp; omega
            have d0 : w1.cell? ⟨wr.heap.size, 0, none⟩ = some (.int .i64 x.k) := by rw [Lib.cell_of_heap e1]; rfl
            have d1 : w1.cell? ⟨wr.heap.size, 1, none⟩ = some (.string x.s) := by rw [Lib.cell_of_heap e1]; rfl
            have d2 : w1.cell? ⟨wr.heap.size, 2, none⟩ = some (.int .i64 x.n) := by rw [Lib.cell_of_heap e1]; rfl
            have d3 : w1.cell? ⟨wr.heap.size, 3, none⟩ = some (.int .i64 x.t) := by rw [Lib.cell_of_heap e1]; rfl
            have d4 : w1.cell? ⟨wr.heap.size, 4, none⟩ = some (.int .i64 x.at_) := by rw [Lib.cell_of_heap e1]; rfl
            clear L0 hb1 hk1 e0 e1 z1 HL ba c0 c1 c2 c3 c4
            go_wp2_with fail
            refine (shown_v x hxo.2.1 hxo.2.2 w1 (HG.out.below B1.out HG.out.lt) (H3.out.below B1.out)).mono ?_
            rintro e w2 ⟨rfl, hb2⟩
            have B2 := hide (B1.out.trans (hb2.mono B1.out.size))
            have L2 := isBldF_below L1.out hb2
            have q2 : Q < w2.heap.size := Nat.lt_of_lt_of_le q1 hb2.size
            clear hb2 d0 d1 d2 d3 d4 L1
            go_wp2_with fail
            refine (Tryd.writeString_k Q Q _ _ w2 L2 (by rw [Lib.byteCells_length, list_size]; omega) (Nat.le_of_lt q2)).mono ?_
            rintro e w3 ⟨rfl, L3, hb3, _⟩
            rw [strCells_text, ← byteCells_app, ← HP.out] at L3
            have B3 := hide (B2.out.trans (hb3.mono zr))
            have q3 : Q < w3.heap.size := Nat.lt_of_lt_of_le q2 hb3.size
            clear hb3 L2
            have LF : Lib.IsBuilderF 57 5 Q Q (Lib.byteCells (joinB (ss.take (j + 1)))) w3 := .inr L3
            have cl := Tryd.Builder_Len_f Q Q _ w3 LF
            rw [Lib.byteCells_length] at cl
            have LF2 := hide LF
            have hz : (joinB (ss.take (j + 1))).length ≤ 100000 := by rw [HP.out, List.length_append]; omega
            have HZ : Hid (∀ z, z = (joinB (ss.take (j + 1))).length → True) := fun _ _ => trivial
            clear LF L3 HZ
            go_wp2_with fail
            refine cl.mono ?_
            rintro e w4 ⟨rfl, rfl⟩
            by_cases hbig : 65536 < (joinB (ss.take (j + 1))).length
            · have i8 : (65536 : Int) < ((joinB (ss.take (j + 1))).length : Int) := by omega
              have HE : Hid (65536 < (joinB ss).length) := by
                have h := joinB_len (ss.drop (j + 1)) (ss.take (j + 1))
                rw [List.take_append_drop] at h
                exact Nat.lt_of_lt_of_le hbig h
              clear hbig hz cl LF2
              generalize ((joinB (ss.take (j + 1))).length : Int) = zz at *
              go_wp2
              go_ret2
              exact ⟨⟨_, rfl, .inr (.inl ⟨HS.out, by rw [← HSS.out]; exact HE.out, rfl⟩)⟩, B3.out⟩
            · have i8 : ¬ (65536 : Int) < ((joinB (ss.take (j + 1))).length : Int) := by omega
              have HE : Hid ((joinB (ss.take (j + 1))).length ≤ 65536) := by show _ ≤ _; omega
              clear hbig hz cl
              generalize ((joinB (ss.take (j + 1))).length : Int) = zz at *
              go_wp2
              go_roundw
              case rel => exact ⟨j + 1, by omega, by go_num, LF2.out, B3.out, HE.out, q3⟩
              case measure => simp [intOf]; omega
        · obtain rfl : j = M := by omega
          have htk : ss.take j = ss := List.take_of_length_le (by rw [HLS.out]; omega)
          have HE : Hid ((joinB ss).length ≤ 65536) := by
            have := hj6.out
            rw [htk] at this
            exact this
          have LB := HBL.out
          rw [htk] at LB
          have cs := Tryd.Builder_String_any_k Q Q (joinB ss) wr LB (Nat.le_of_lt hq)
          clear htk LB HBL hj6
          go_wp2_with fail
          refine cs.mono ?_
          rintro e w2 ⟨rfl, _, hb2, _⟩
          have B2 := hide (HB.out.trans (hb2.mono zr))
          clear cs hb2 HB
          go_wp2
          go_ret2
          exact ⟨⟨_, rfl, .inr (.inr ⟨HS.out, by rw [← HSS.out]; exact HE.out, by rw [← HSS.out]; rfl⟩)⟩, B2.out⟩
end Go.Proofs.YtfcnbiikjopajaaDoor
