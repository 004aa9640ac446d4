/- The contract of lex.timeValue. -/
import Derived.Test.YtkicbmjjbnblfaaDoorTimeP
namespace Go.Proofs.YtkicbmjjbnblfaaDoor
open Go.RowKit
set_option maxRecDepth 100000 in
set_option maxHeartbeats 3200000 in
theorem timeValue_any (l : Bs) (hl : l.length ≤ 140737488355000) (w : World) (hg : Glo w) : Calls Tryd.prog 120 #[.string ⟨l.toArray⟩] w fun e w' => (∃ v, e = .returned v ∧ TvOut l (timeP 6 0 0 l) v) ∧ Below w.heap.size w w' := by
  have HG := hide hg
  have hsz := hide (list_size l)
  have hidx : Hid (∀ k (h : k < l.length) W, (Instr.index 9 (.string ⟨l.toArray⟩) (.int .i64 (k : Int))).run Tryd.prog W = .ok (.int .u8 (l[k].toNat : Int)) W) := fun k h W => run_idx ⟨l.toArray⟩ k l[k] (List.getElem?_eq_getElem h) W
  have HX : Hid (∀ (n : Nat), n ≤ l.length → ∀ W : World, (Instr.slice 9 (.string ⟨l.toArray⟩) (some (.int .i64 (n : Int))) none none).run Tryd.prog W = .ok (.string ⟨(l.drop n).toArray⟩) W) := fun n h W => slice_from ⟨l.toArray⟩ n (by rw [list_size]; exact h) W
  have HM : Hid (∀ (a b : Nat), a ≤ b → b ≤ l.length → ∀ W : World, (Instr.slice 9 (.string ⟨l.toArray⟩) (some (.int .i64 (a : Int))) (some (.int .i64 (b : Int))) none).run Tryd.prog W = .ok (.string ⟨((l.drop a).take (b - a)).toArray⟩) W) := fun a b h h2 W => slice_mid ⟨l.toArray⟩ a b h (by rw [list_size]; exact h2) W
  have HD := hide fun (k : Nat) (W : World) => digits_any (l.drop k) (by rw [List.length_drop]; omega) 10 (by omega) (by omega) W
  have HU := hide fun (k : Nat) (W : World) (h : Glo W) => unitOf_any (l.drop k) W h
  have HI := hide fun (b : Bs) (W : World) => Tryd.strings_IndexByte ⟨b.toArray⟩ 95 W
  have HE := hide fun (k : Nat) (W : World) => goesOn_any (l.drop k) W
  have hd := fun (c : UInt8) W => isDigit_any c W
  generalize (⟨l.toArray⟩ : ByteArray) = s at *
  have HL := hide hl
  clear hl hg
  go_enter Tryd.func120, Tryd.ntmps120
  go_wp2_with fail
  go_loopw [5, 6, 7] (fun a b c wr => ∃ k lo n f : Nat, 5 ≤ f + lo ∧ k ≤ l.length ∧ lo ≤ 5 ∧ a = .int .i64 (n : Int) ∧ b = .int .i64 (k : Int) ∧ c = .int .i64 (lo : Int) ∧ Hid (n ≤ lo * 371085174374400000 ∧ timeP (f + 1) lo n (l.drop k) = timeP 6 0 0 l ∧ (lo = 0 ↔ k = 0) ∧ Below w.heap.size w wr)) (fun _ _ c _ => 5 - (intOf c).toNat)
  case atStart => exact ⟨0, 0, 0, 5, by omega, by omega, by omega, rfl, rfl, rfl, by omega, rfl, by simp, Below.refl _ _⟩
  case round =>
    obtain ⟨k, lo, n, f, hf, hk, hlo, rfl, rfl, rfl, hh⟩ := hrel
    by_cases hlt : k < l.length
    · have i1 : (k : Int) < (s.size : Int) := by have := hsz.out; omega
      have x0 := hidx.out k hlt
      have c0 := hd l[k]
      by_cases hdig : isDig l[k] = true
      · rw [hdig] at c0
        have hq : ∃ c r, l.drop k = c :: r ∧ isDig c = true := ⟨l[k], l.drop (k + 1), drop_at hlt, hdig⟩
        generalize (l[k].toNat : Int) = c at *
        obtain ⟨len, hlen, hz, p1, p2⟩ := part_facts l k hk
        have x1 := HX.out k hk
        have c1 := HD.out k
        unfold pdOut at c1
        rw [hz] at c1
        have hmle := (pd_ge (base := 10) (by omega) (l.drop k) false 0 (by omega)).2
        have x2 := HM.out k (k + len) (by omega) hlen
        rw [Nat.add_sub_cancel_left] at x2
        have c2 := HI.out ((l.drop k).take len)
        obtain ⟨m, HMm⟩ : ∃ m, Hid ((pd 10 false 0 (l.drop k)).1 = m) := ⟨_, rfl⟩
        rw [HMm.out] at c1 hmle
        have hT := timeP_step (f := f) (lo := lo) (n := n) hq
        rw [hh.out.2.1] at hT
        have j1 : (k : Int) ≤ 140737488355000 := by have := HL.out; omega
        have j2 : (len : Int) ≤ 140737488355000 := by have := HL.out; omega
        have j3 : (0 : Int) ≤ (len : Int) := by omega
        rw [show ((k + len : Nat) : Int) = (k : Int) + (len : Int) by omega] at x2
        by_cases hu : (95 : UInt8) ∈ (l.drop k).take len
        · have hT2 := p1 hu
          rw [hT2] at hT
          have i2 : 0 ≤ Lib.indexByte ((l.drop k).take len) 95 := (index_mem _ _).2 hu
          have c2' : ∀ W, Calls Tryd.prog 64 #[.string ⟨((l.drop k).take len).toArray⟩, .int .u8 95] W fun e w' => e = .returned (.int .i64 (Lib.indexByte ((l.drop k).take len) 95)) ∧ w' = W := c2
          clear c2 p1 p2 hT2 hu hq
          generalize Lib.indexByte ((l.drop k).take len) 95 = ib at *
          generalize (⟨((l.drop k).take len).toArray⟩ : ByteArray) = t at *
          generalize (⟨(l.drop k).toArray⟩ : ByteArray) = q at *
          have HT := hide hT
          clear hT hz
          go_wp2_with fail
          refine (c0 _).mono ?_
          rintro e w1 ⟨rfl, rfl⟩
          go_wp2_with fail
          refine (c1 _).mono ?_
          rintro e w1 ⟨rfl, rfl⟩
          go_wp2_with fail
          refine (c2' _).mono ?_
          rintro e w1 ⟨rfl, rfl⟩
          go_wp2
          refine bodyPost_ret (v := .tuple #[.int .i64 0, .int .i64 0, .bool false]) ?_ rfl ⟨⟨_, rfl, ?_⟩, hh.out.2.2.2⟩
          · simp [results, Tryd.results120, go_sem]
          · rw [HT.out]; exact ⟨_, _, rfl⟩
        · obtain ⟨q1, q2⟩ := p2 hu
          have hm2 : (cap10 0 (l.drop k)).1 = m := by rw [← q1]; exact HMm.out
          rw [q2, hm2] at hT
          have i2 : ¬ 0 ≤ Lib.indexByte ((l.drop k).take len) 95 := fun h => hu ((index_mem _ _).1 h)
          have c2' : ∀ W, Calls Tryd.prog 64 #[.string ⟨((l.drop k).take len).toArray⟩, .int .u8 95] W fun e w' => e = .returned (.int .i64 (Lib.indexByte ((l.drop k).take len) 95)) ∧ w' = W := c2
          have x3 := HX.out (k + len) hlen
          have c3 := fun W h => HU.out (k + len) W h
          obtain ⟨u1, u2⟩ := unit_of (l.drop (k + len))
          rw [u1] at c3
          rw [show ((k + len : Nat) : Int) = (k : Int) + (len : Int) by omega] at x3
          clear c2 p1 p2 hu hq q1 q2 hm2 HMm u1
          generalize Lib.indexByte ((l.drop k).take len) 95 = ib at *
          generalize (⟨((l.drop k).take len).toArray⟩ : ByteArray) = t at *
          generalize (⟨(l.drop k).toArray⟩ : ByteArray) = q at *
          generalize (⟨(l.drop (k + len)).toArray⟩ : ByteArray) = q2 at *
          have m0 : (0 : Int) ≤ (m : Int) := by omega
          have m1 : (m : Int) ≤ 4294967296 := by omega
          have n0 : (0 : Int) ≤ (n : Int) := by omega
          have n1 : (n : Int) ≤ 5 * 371085174374400000 := by
            have h1 := hh.out.1
            have : lo * 371085174374400000 ≤ 5 * 371085174374400000 := Nat.mul_le_mul_right _ hlo
            omega
          have gw : Glo wr := HG.out.below hh.out.2.2.2 HG.out.lt
          cases hul : unitL (l.drop (k + len)) with
          | none =>
            rw [hul] at hT c3
            have HT := hide hT
            have i3 : (-1 : Int) < (lo : Int) := by omega
            clear hT u2 hz hul
            go_wp2_with fail
            refine (c0 _).mono ?_
            rintro e w1 ⟨rfl, rfl⟩
            go_wp2_with fail
            refine (c1 _).mono ?_
            rintro e w1 ⟨rfl, rfl⟩
            go_wp2_with fail
            refine (c2' _).mono ?_
            rintro e w1 ⟨rfl, rfl⟩
            go_wp2_with fail
            refine (c3 _ gw).mono ?_
            rintro e w1 ⟨rfl, hb1⟩
            have B1 := hide (hh.out.2.2.2.trans (hb1.mono hh.out.2.2.2.size))
            clear hb1
            go_wp2
            refine bodyPost_ret (v := .tuple #[.int .i64 0, .int .i64 0, .bool false]) ?_ rfl ⟨⟨_, rfl, ?_⟩, B1.out⟩
            · simp [results, Tryd.results120, go_sem]
            · rw [HT.out]; exact ⟨_, _, rfl⟩
          | some y =>
            obtain ⟨u, r2⟩ := y
            rw [hul] at hT c3
            obtain ⟨v1, v2, v3⟩ := u2 u r2 hul
            rw [List.length_drop] at v3
            rw [List.drop_drop] at v2
            subst v2
            simp only [] at hT c3
            clear u2 hul hz
            by_cases hulo : u < lo
            · rw [if_pos hulo] at hT
              have HT := hide hT
              have i3 : (u : Int) < (lo : Int) := by omega
              clear hT
              go_wp2_with fail
              refine (c0 _).mono ?_
              rintro e w1 ⟨rfl, rfl⟩
              go_wp2_with fail
              refine (c1 _).mono ?_
              rintro e w1 ⟨rfl, rfl⟩
              go_wp2_with fail
              refine (c2' _).mono ?_
              rintro e w1 ⟨rfl, rfl⟩
              go_wp2_with fail
              refine (c3 _ gw).mono ?_
              rintro e w1 ⟨rfl, hb1⟩
              have B1 := hide (hh.out.2.2.2.trans (hb1.mono hh.out.2.2.2.size))
              clear hb1
              go_wp2
              refine bodyPost_ret (v := .tuple #[.int .i64 0, .int .i64 0, .bool false]) ?_ rfl ⟨⟨_, rfl, ?_⟩, B1.out⟩
              · simp [results, Tryd.results120, go_sem]
              · rw [HT.out]; exact ⟨_, _, rfl⟩
            · rw [if_neg hulo] at hT
              have HT := hide hT
              have i3 : ¬ (u : Int) < (lo : Int) := by omega
              clear hT
              have hlast : n + m * unitW u ≤ (u + 1) * 371085174374400000 := by
                have h1 := hh.out.1
                have h2 := (unitW_pos u).2
                have h3 : m * unitW u ≤ 4294967296 * 86400000 := Nat.mul_le_mul hmle h2
                have h4 : lo * 371085174374400000 ≤ u * 371085174374400000 := Nat.mul_le_mul_right _ (by omega)
                have h5 : (u + 1) * 371085174374400000 = u * 371085174374400000 + 371085174374400000 := by rw [Nat.add_mul]
                omega
              have HN := hide hlast
              obtain ⟨f', rfl⟩ : ∃ f', f = f' + 1 := ⟨f - 1, by omega⟩
              have hul2 : u = 0 ∨ u = 1 ∨ u = 2 ∨ u = 3 ∨ u = 4 := by omega
              clear hlast
              go_wp2_with fail
              refine (c0 _).mono ?_
              rintro e w1 ⟨rfl, rfl⟩
              go_wp2_with fail
              refine (c1 _).mono ?_
              rintro e w1 ⟨rfl, rfl⟩
              go_wp2_with fail
              refine (c2' _).mono ?_
              rintro e w1 ⟨rfl, rfl⟩
              go_wp2_with fail
              refine (c3 _ gw).mono ?_
              rintro e w1 ⟨rfl, hb1⟩
              have B1 := hide (hh.out.2.2.2.trans (hb1.mono hh.out.2.2.2.size))
              have g1 := HG.out.below B1.out HG.out.lt
              clear hb1 c0 c1 c2' c3 x0 x1 x2 x3 HX HM HD HU HI HE hd hidx
              rcases hul2 with rfl | rfl | rfl | rfl | rfl
              · have t0 := g1.unit 0 _ rfl
                have t1 := g1.unit 1 _ rfl
                clear g1
                go_wp2
                refine ⟨⟨k + len + unitLen 0, 0 + 1, n + m * unitW 0, f', by omega, by omega, by omega, ?_, ?_, rfl, HN.out, HT.out.symm, by simp [unitLen], B1.out⟩, ?_⟩
                · congr 1
                · congr 1
                · simp only [intOf]; omega
              · have t0 := g1.unit 2 _ rfl
                have t1 := g1.unit 3 _ rfl
                clear g1
                go_wp2
                refine ⟨⟨k + len + unitLen 1, 1 + 1, n + m * unitW 1, f', by omega, by omega, by omega, ?_, ?_, rfl, HN.out, HT.out.symm, by simp [unitLen], B1.out⟩, ?_⟩
                · congr 1
                · congr 1
                · simp only [intOf]; omega
              · have t0 := g1.unit 4 _ rfl
                have t1 := g1.unit 5 _ rfl
                clear g1
                go_wp2
                refine ⟨⟨k + len + unitLen 2, 2 + 1, n + m * unitW 2, f', by omega, by omega, by omega, ?_, ?_, rfl, HN.out, HT.out.symm, by simp [unitLen], B1.out⟩, ?_⟩
                · congr 1
                · congr 1
                · simp only [intOf]; omega
              · have t0 := g1.unit 6 _ rfl
                have t1 := g1.unit 7 _ rfl
                clear g1
                go_wp2
                refine ⟨⟨k + len + unitLen 3, 3 + 1, n + m * unitW 3, f', by omega, by omega, by omega, ?_, ?_, rfl, HN.out, HT.out.symm, by simp [unitLen], B1.out⟩, ?_⟩
                · congr 1
                · congr 1
                · simp only [intOf]; omega
              · have t0 := g1.unit 8 _ rfl
                have t1 := g1.unit 9 _ rfl
                clear g1
                go_wp2
                refine ⟨⟨k + len + unitLen 4, 4 + 1, n + m * unitW 4, f', by omega, by omega, by omega, ?_, ?_, rfl, HN.out, HT.out.symm, by simp [unitLen], B1.out⟩, ?_⟩
                · congr 1
                  show _ = ((n + m * 1 : Nat) : Int)
                  omega
                · congr 1
                · simp only [intOf]; omega
      · rw [show isDig l[k] = false by simpa using hdig] at c0
        have hq : ¬ ∃ c r, l.drop k = c :: r ∧ isDig c = true := by
          rintro ⟨c, r, e, h⟩
          rw [drop_at hlt] at e
          injection e with e1 e2
          rw [e1] at hdig
          exact hdig h
        have hT := timeP_end (f := f) (lo := lo) (n := n) hq
        rw [hh.out.2.1] at hT
        clear hq hdig
        generalize (l[k].toNat : Int) = c at *
        by_cases hk0 : k = 0
        · have hlo0 : lo = 0 := hh.out.2.2.1.2 hk0
          have HT := hide (show timeP 6 0 0 l = none by rw [hT, if_neg (fun h => h.1 hlo0)])
          have i3 : ¬ (0 : Int) < (k : Int) := by omega
          clear hT hlo0 hk0 HE HX
          go_wp2_with fail
          refine (c0 _).mono ?_
          rintro e w1 ⟨rfl, rfl⟩
          go_wp2
          refine bodyPost_ret (v := .tuple #[.int .i64 (n : Int), .int .i64 (k : Int), .bool false]) ?_ rfl ⟨⟨_, rfl, ?_⟩, hh.out.2.2.2⟩
          · simp [results, Tryd.results120, go_sem]
          · rw [HT.out]; exact ⟨_, _, rfl⟩
        · have hlo0 : lo ≠ 0 := fun h => hk0 (hh.out.2.2.1.1 h)
          have i3 : (0 : Int) < (k : Int) := by omega
          have x1 := HX.out k hk
          have c1 := HE.out k
          have HT := hide (show timeP 6 0 0 l = if goesOn (l.drop k) = false then some (n, l.drop k) else none by
            rw [hT]
            by_cases hgo : goesOn (l.drop k) = false
            · rw [if_pos ⟨hlo0, hgo⟩, if_pos hgo]
            · rw [if_neg (fun h => hgo h.2), if_neg hgo])
          have HK : Hid (((l.length - (l.drop k).length : Nat) : Int) = (k : Int)) := by
            show _ = _
            rw [List.length_drop]; omega
          clear hT hlo0 hk0 HE HX
          obtain ⟨g, HGo⟩ : ∃ g, Hid (goesOn (l.drop k) = g) := ⟨_, rfl⟩
          rw [HGo.out] at c1
          generalize (⟨(l.drop k).toArray⟩ : ByteArray) = q at *
          go_wp2_with fail
          refine (c0 _).mono ?_
          rintro e w1 ⟨rfl, rfl⟩
          go_wp2_with fail
          refine (c1 _).mono ?_
          rintro e w1 ⟨rfl, rfl⟩
          go_wp2
          refine bodyPost_ret (v := .tuple #[.int .i64 (n : Int), .int .i64 (k : Int), .bool (!g)]) ?_ rfl ⟨⟨_, rfl, ?_⟩, hh.out.2.2.2⟩
          · simp [results, Tryd.results120, go_sem]
          · rw [HT.out, HGo.out]
            cases g
            · rw [if_pos rfl]
              show _ = _
              rw [HK.out]
              rfl
            · rw [if_neg (by decide)]
              exact ⟨_, _, rfl⟩
    · have hq : ¬ ∃ c r, l.drop k = c :: r ∧ isDig c = true := by
        rintro ⟨c, r, e, h⟩
        rw [List.drop_eq_nil_of_le (by omega)] at e
        cases e
      have i1 : ¬ (k : Int) < (s.size : Int) := by have := hsz.out; omega
      have hT := timeP_end (f := f) (lo := lo) (n := n) hq
      rw [hh.out.2.1] at hT
      clear hq
      by_cases hk0 : k = 0
      · have hlo0 : lo = 0 := hh.out.2.2.1.2 hk0
        have HT := hide (show timeP 6 0 0 l = none by rw [hT, if_neg (fun h => h.1 hlo0)])
        have i3 : ¬ (0 : Int) < (k : Int) := by omega
        clear hT hlo0 hk0 HE HX
        go_wp2
        refine bodyPost_ret (v := .tuple #[.int .i64 (n : Int), .int .i64 (k : Int), .bool false]) ?_ rfl ⟨⟨_, rfl, ?_⟩, hh.out.2.2.2⟩
        · simp [results, Tryd.results120, go_sem]
        · rw [HT.out]; exact ⟨_, _, rfl⟩
      · have hlo0 : lo ≠ 0 := fun h => hk0 (hh.out.2.2.1.1 h)
        have i3 : (0 : Int) < (k : Int) := by omega
        have x1 := HX.out k hk
        have c1 := HE.out k
        have HT := hide (show timeP 6 0 0 l = if goesOn (l.drop k) = false then some (n, l.drop k) else none by
          rw [hT]
          by_cases hgo : goesOn (l.drop k) = false
          · rw [if_pos ⟨hlo0, hgo⟩, if_pos hgo]
          · rw [if_neg (fun h => hgo h.2), if_neg hgo])
        have HK : Hid (((l.length - (l.drop k).length : Nat) : Int) = (k : Int)) := by
          show _ = _
          rw [List.length_drop]; omega
        clear hT hlo0 hk0 HE HX
        obtain ⟨g, HGo⟩ : ∃ g, Hid (goesOn (l.drop k) = g) := ⟨_, rfl⟩
        rw [HGo.out] at c1
        generalize (⟨(l.drop k).toArray⟩ : ByteArray) = q at *
        go_wp2_with fail
        refine (c1 _).mono ?_
        rintro e w1 ⟨rfl, rfl⟩
        go_wp2
        refine bodyPost_ret (v := .tuple #[.int .i64 (n : Int), .int .i64 (k : Int), .bool (!g)]) ?_ rfl ⟨⟨_, rfl, ?_⟩, hh.out.2.2.2⟩
        · simp [results, Tryd.results120, go_sem]
        · rw [HT.out, HGo.out]
          cases g
          · rw [if_pos rfl]
            show _ = _
            rw [HK.out]
            rfl
          · rw [if_neg (by decide)]
            exact ⟨_, _, rfl⟩
end Go.Proofs.YtkicbmjjbnblfaaDoor
