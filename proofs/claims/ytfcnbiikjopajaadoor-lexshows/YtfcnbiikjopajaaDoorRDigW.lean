/- The contract of the document's digits. -/
import Derived.Test.YtfcnbiikjopajaaDoorRSkpW
namespace Go.Proofs.YtfcnbiikjopajaaDoor
open Go.RowKit
theorem digs_dig {base most n : Nat} {p : Bool} {l : Bs} {j : Nat} (hj : j < l.length) (h : worth l[j] < base) : digs base most p n (l.drop j) = if most < n * base + worth l[j] then none else digs base most true (n * base + worth l[j]) (l.drop (j + 1)) := by
  conv => lhs; rw [dropAt hj, digs, if_pos h]
theorem digs_low {base most n : Nat} {l : Bs} {j : Nat} (hj : j < l.length) (h : ¬ worth l[j] < base) (h95 : l[j] = 95) (hh : headW base (l.drop (j + 1)) = true) : digs base most true n (l.drop j) = digs base most false n (l.drop (j + 1)) := by
  conv => lhs; rw [dropAt hj, digs, if_neg h, if_pos ⟨h95, rfl, hh⟩]
theorem digs_bad {base most n : Nat} {p : Bool} {l : Bs} {j : Nat} (hj : j < l.length) (h : ¬ worth l[j] < base) (h95 : l[j] = 95) (hh : p = true → headW base (l.drop (j + 1)) = false) : digs base most p n (l.drop j) = none := by
  rw [dropAt hj, digs, if_neg h, if_neg (fun e => by rw [hh e.2.1] at e; exact absurd e.2.2 (by decide))]
  cases p with
  | false => rfl
  | true => rw [if_pos rfl, if_pos (.inl h95)]
theorem digs_stop {base most n : Nat} {p : Bool} {l : Bs} {j : Nat} (hj : j < l.length) (h : ¬ worth l[j] < base) (h95 : l[j] ≠ 95) : digs base most p n (l.drop j) = if p = true then (if isDig l[j] = true then none else some (n, l.drop j)) else none := by
  conv => lhs; rw [dropAt hj, digs, if_neg h, if_neg (fun e => h95 e.1)]
  cases p with
  | false => rfl
  | true =>
    rw [if_pos rfl, if_pos rfl, ← dropAt hj]
    by_cases hd : isDig l[j] = true
    · rw [if_pos hd, if_pos (.inr hd)]
    · rw [if_neg hd, if_neg (fun e => e.elim h95 hd)]
theorem headW_at {base : Nat} {l : Bs} {j : Nat} : headW base (l.drop j) = true ↔ ∃ h : j < l.length, worth l[j] < base := by
  by_cases hj : j < l.length
  · rw [dropAt hj]
    show decide (worth l[j] < base) = true ↔ _
    rw [decide_eq_true_iff]
    exact ⟨fun h => ⟨hj, h⟩, fun ⟨_, h⟩ => h⟩
  · rw [List.drop_of_length_le (by omega)]
    exact ⟨fun h => (by cases h), fun ⟨h, _⟩ => absurd h hj⟩
/-- digits' answer -/
def digV (L : Nat) : Option (Nat × Bs) → Value
  | none => .tuple #[.int .i64 0, .int .i64 0, .bool false]
  | some (n, r) => .tuple #[.int .i64 (n : Int), .int .i64 ((L - r.length : Nat) : Int), .bool true]
theorem worth95 {base : Nat} (h16 : base ≤ 16) {c : UInt8} (h : worth c < base) : c ≠ 95 := fun e => by
  rw [e] at h
  have : worth 95 = 99 := by decide
  omega
set_option maxRecDepth 100000 in
set_option maxHeartbeats 6400000 in
theorem rdigits_any (l : Bs) (k base most : Nat) (hl : l.length ≤ 65536) (hk : k ≤ l.length) (h2 : 2 ≤ base) (h16 : base ≤ 16) (hm : most ≤ 4294967295) (w : World) : Calls Tryd.prog 65 #[.string ⟨l.toArray⟩, .int .i64 (k : Int), .int .i64 (base : Int), .int .i64 (most : Int)] w fun e w' => e = .returned (digV l.length (digs base most false 0 (l.drop k))) ∧ w' = w := by
  have hsz := hide (list_size l)
  have HX : Hid (∀ (i : Nat) (h : i < l.length), ∀ W : World, (Instr.index 9 (.string ⟨l.toArray⟩) (.int .i64 (i : Int))).run Tryd.prog W = .ok (.int .u8 (l[i].toNat : Int)) W) := fun i h W => run_idx ⟨l.toArray⟩ i l[i] (List.getElem?_eq_getElem h) W
  have i0 : ((⟨l.toArray⟩ : ByteArray).size : Int) ≤ 65536 := by rw [list_size]; omega
  generalize (⟨l.toArray⟩ : ByteArray) = s at *
  have b2 : (2 : Int) ≤ (base : Int) := by omega
  have b16 : (base : Int) ≤ 16 := by omega
  have m0 : (0 : Int) ≤ (most : Int) := by omega
  have m1 : (most : Int) ≤ 4294967295 := by omega
  have HM := hide (And.intro h2 (And.intro h16 hm))
  obtain ⟨y, hy⟩ : ∃ y : Int, y = (base : Int) := ⟨_, rfl⟩
  obtain ⟨z, hz⟩ : ∃ z : Int, z = (most : Int) := ⟨_, rfl⟩
  rw [← hy] at b2 b16 ⊢
  rw [← hz] at m0 m1 ⊢
  have HY := hide hy
  have HZ := hide hz
  clear hy hz h2 h16 hm
  go_enter Tryd.func65, Tryd.ntmps65
  go_wp2_with fail
  go_loopw [1, 11] (fun i v wr => ∃ (j n : Nat) (p : Bool), k ≤ j ∧ j ≤ l.length ∧ i = .int .i64 (j : Int) ∧ v = .int .i64 (n : Int) ∧ (n : Int) ≤ z ∧ wr = w ∧ Hid (digs base most false 0 (l.drop k) = digs base most p n (l.drop j) ∧ (p = true → ∃ (_ : k < j) (h : j - 1 < l.length), worth l[j - 1] < base) ∧ (p = false → j = k ∨ headW base (l.drop j) = true))) (fun i _ _ => l.length - (intOf i).toNat)
  case atStart => exact ⟨k, 0, false, Nat.le_refl _, hk, rfl, rfl, m0, rfl, rfl, (fun h => by cases h), fun _ => .inl rfl⟩
  case round =>
    obtain ⟨j, n, p, hkj, hjl, rfl, rfl, hn, rfl, hh⟩ := hrel
    have j0 : (0 : Int) ≤ (j : Int) := by omega
    have jl : (j : Int) ≤ 65536 := by omega
    have n0 : (0 : Int) ≤ (n : Int) := by omega
    have n1 : (n : Int) ≤ 4294967295 := by omega
    by_cases hlt : j < l.length
    · have g1 : (j : Int) < (s.size : Int) := by have := hsz.out; omega
      have hix := HX.out j hlt
      have cw := fun W => worth_any l[j] W
      by_cases hw : worth l[j] < base
      · have hd := hide (hh.out.1.trans (digs_dig hlt hw))
        have g2 : ((worth l[j] : Nat) : Int) < y := by have := HY.out; omega
        have g3 : (0 : Int) ≤ ((worth l[j] : Nat) : Int) := by omega
        have hn5 := worth95 HM.out.2.1 hw
        have g4 : ((l[j].toNat : Int) != 95) = true := by rw [bne_iff_ne]; exact fun e => hn5 (UInt8.toNat_inj.1 (by show l[j].toNat = 95; omega))
        have g5 : ((l[j].toNat : Int) == 95) = false := by rw [beq_eq_false_iff_ne]; exact fun e => hn5 (UInt8.toNat_inj.1 (by show l[j].toNat = 95; omega))
        have hx := byte_lt l[j]
        have HP : Hid (∃ (_ : k < j + 1) (h : j + 1 - 1 < l.length), worth l[j + 1 - 1] < base) := ⟨by omega, by simpa using hlt, by simpa using hw⟩
        have hmul : Hid ((n : Int) * y + ((worth l[j] : Nat) : Int) = ((n * base + worth l[j] : Nat) : Int)) := by show _ = _; rw [HY.out, Int.natCast_add, Int.natCast_mul]
        have hb1 : (n : Int) * y ≤ 4294967295 * 16 := by
          have h1 : (n : Int) * y ≤ (n : Int) * 16 := Int.mul_le_mul_of_nonneg_left b16 n0
          omega
        have hb0 : (0 : Int) ≤ (n : Int) * y := Int.mul_nonneg n0 (by omega)
        obtain ⟨u, hu⟩ : ∃ u, u = (n : Int) * y := ⟨_, rfl⟩
        replace hu := hu.symm
        rw [hu] at hb0 hb1 hmul
        by_cases hbig : most < n * base + worth l[j]
        · have HR : Hid (digV l.length (digs base most false 0 (l.drop k)) = .tuple #[.int .i64 0, .int .i64 0, .bool false]) := by show _ = _; rw [hd.out, if_pos hbig]; rfl
          have g6 : z < u + ((worth l[j] : Nat) : Int) := by rw [hmul.out]; have := HZ.out; omega
          clear hd hh HX hbig hw hmul HP hn5
          generalize ((worth l[j] : Nat) : Int) = v at *
          generalize (l[j].toNat : Int) = x at *
          go_wp2_with fail
          refine (cw _).mono ?_
          rintro e w1 ⟨rfl, rfl⟩
          go_wp2_with fail
          refine (cw _).mono ?_
          rintro e w1 ⟨rfl, rfl⟩
          clear cw
          go_wp2
          go_ret3
          exact ⟨by rw [HR.out]; rfl, rfl⟩
        · have HR : Hid (digs base most false 0 (l.drop k) = digs base most true (n * base + worth l[j]) (l.drop (j + 1))) := by show _ = _; rw [hd.out, if_neg hbig]
          have g6 : u + ((worth l[j] : Nat) : Int) ≤ z := by rw [hmul.out]; have := HZ.out; omega
          clear hd hh HX hbig hw hn5
          generalize ((worth l[j] : Nat) : Int) = v at *
          generalize (l[j].toNat : Int) = x at *
          go_wp2_with fail
          refine (cw _).mono ?_
          rintro e w1 ⟨rfl, rfl⟩
          go_wp2_with fail
          refine (cw _).mono ?_
          rintro e w1 ⟨rfl, rfl⟩
          clear cw
          go_wp2
          go_roundw
          case rel => exact ⟨j + 1, n * base + worth l[j], true, by omega, by omega, by go_num, by rw [← hmul.out], by rw [← hmul.out]; exact g6, trivial, HR.out, fun _ => HP.out, fun h => by cases h⟩
          case measure => simp only [intOf]; omega
      · have g2 : ¬ ((worth l[j] : Nat) : Int) < y := by have := HY.out; omega
        have g3 : (0 : Int) ≤ ((worth l[j] : Nat) : Int) := by omega
        have hx := byte_lt l[j]
        have hpf : p = false → j = k := fun h => (hh.out.2.2 h).elim id fun h => absurd (headW_at.1 h).2 hw
        by_cases h95 : l[j] = 95
        · have hx5 : (l[j].toNat : Int) = 95 := by rw [h95]; rfl
          rw [hx5] at hix cw
          cases p with
          | false =>
            obtain rfl := hpf rfl
            have HR : Hid (digV l.length (digs base most false 0 (l.drop j)) = .tuple #[.int .i64 0, .int .i64 0, .bool false]) := by show _ = _; rw [digs_bad hlt hw h95 (fun h => by cases h)]; rfl
            clear hh HX hw hpf h95 hx hx5
            generalize ((worth l[j] : Nat) : Int) = v at *
            go_wp2_with fail
            refine (cw _).mono ?_
            rintro e w1 ⟨rfl, rfl⟩
            clear cw
            go_wp2
            go_ret3
            exact ⟨by rw [HR.out]; rfl, rfl⟩
          | true =>
            obtain ⟨hkj2, hj1, hwp⟩ := hh.out.2.1 rfl
            have g5 : ((j : Int) == (k : Int)) = false := by rw [beq_eq_false_iff_ne]; omega
            have g6 : (k : Int) < (j : Int) := by omega
            have cw1 := fun W => worth_any l[j - 1] W
            have hix1 := HX.out (j - 1) hj1
            obtain ⟨q, hq⟩ : ∃ q, q = j - 1 := ⟨_, rfl⟩
            have e1 : (j : Int) - 1 = (q : Int) := by omega
            have q0 : (0 : Int) ≤ (q : Int) := by omega
            have q1 : (q : Int) < (s.size : Int) := by have := hsz.out; omega
            have g7 : ((worth l[j - 1] : Nat) : Int) < y := by have := HY.out; omega
            rw [show ((j - 1 : Nat) : Int) = (q : Int) from by rw [hq]] at hix1
            by_cases hd : headW base (l.drop (j + 1)) = true
            · obtain ⟨hj2, hw2⟩ := headW_at.1 hd
              have HR := hide (hh.out.1.trans (digs_low hlt hw h95 hd))
              have HD := hide hd
              have cw2 := fun W => worth_any l[j + 1] W
              have hix2 := HX.out (j + 1) hj2
              rw [show ((j + 1 : Nat) : Int) = (j : Int) + 1 from by omega] at hix2
              have g8 : (j : Int) + 1 < (s.size : Int) := by have := hsz.out; omega
              have g9 : ((worth l[j + 1] : Nat) : Int) < y := by have := HY.out; omega
              have hx2 := byte_lt l[j + 1]
              have hx1 := byte_lt l[j - 1]
              clear hh HX hw hpf h95 hx hx5 hwp hd hw2 hq
              generalize ((worth l[j] : Nat) : Int) = v at *
              generalize ((worth l[j - 1] : Nat) : Int) = v1 at *
              generalize ((worth l[j + 1] : Nat) : Int) = v2 at *
              generalize (l[j + 1].toNat : Int) = x2 at *
              generalize (l[j - 1].toNat : Int) = x1 at *
              go_wp2_with fail
              refine (cw _).mono ?_
              rintro e w1 ⟨rfl, rfl⟩
              clear cw
              go_wp2_with fail
              refine (cw1 _).mono ?_
              rintro e w1 ⟨rfl, rfl⟩
              clear cw1
              go_wp2_with fail
              refine (cw2 _).mono ?_
              rintro e w1 ⟨rfl, rfl⟩
              clear cw2
              go_wp2
              go_roundw
              case rel => exact ⟨j + 1, n, false, by omega, by omega, by go_num, rfl, hn, trivial, HR.out, (fun h => by cases h), fun _ => .inr HD.out⟩
              case measure => simp only [intOf]; omega
            · have HR : Hid (digV l.length (digs base most false 0 (l.drop k)) = .tuple #[.int .i64 0, .int .i64 0, .bool false]) := by
                show _ = _
                rw [hh.out.1, digs_bad hlt hw h95 (fun _ => by simpa using hd)]; rfl
              have hx1 := byte_lt l[j - 1]
              by_cases hj2 : j + 1 < l.length
              · have hw2 : ¬ worth l[j + 1] < base := fun h => hd (headW_at.2 ⟨hj2, h⟩)
                have cw2 := fun W => worth_any l[j + 1] W
                have hix2 := HX.out (j + 1) hj2
                rw [show ((j + 1 : Nat) : Int) = (j : Int) + 1 from by omega] at hix2
                have g8 : (j : Int) + 1 < (s.size : Int) := by have := hsz.out; omega
                have g9 : ¬ ((worth l[j + 1] : Nat) : Int) < y := by have := HY.out; omega
                have hx2 := byte_lt l[j + 1]
                clear hh HX hw hpf h95 hx hx5 hwp hd hw2 hq
                generalize ((worth l[j] : Nat) : Int) = v at *
                generalize ((worth l[j - 1] : Nat) : Int) = v1 at *
                generalize ((worth l[j + 1] : Nat) : Int) = v2 at *
                generalize (l[j + 1].toNat : Int) = x2 at *
                generalize (l[j - 1].toNat : Int) = x1 at *
                go_wp2_with fail
                refine (cw _).mono ?_
                rintro e w1 ⟨rfl, rfl⟩
                clear cw
                go_wp2_with fail
                refine (cw1 _).mono ?_
                rintro e w1 ⟨rfl, rfl⟩
                clear cw1
                go_wp2_with fail
                refine (cw2 _).mono ?_
                rintro e w1 ⟨rfl, rfl⟩
                clear cw2
                go_wp2
                go_ret3
                exact ⟨by rw [HR.out]; rfl, rfl⟩
              · have g8 : ¬ (j : Int) + 1 < (s.size : Int) := by have := hsz.out; omega
                clear hh HX hw hpf h95 hx hx5 hwp hd hq
                generalize ((worth l[j] : Nat) : Int) = v at *
                generalize ((worth l[j - 1] : Nat) : Int) = v1 at *
                generalize (l[j - 1].toNat : Int) = x1 at *
                go_wp2_with fail
                refine (cw _).mono ?_
                rintro e w1 ⟨rfl, rfl⟩
                clear cw
                go_wp2_with fail
                refine (cw1 _).mono ?_
                rintro e w1 ⟨rfl, rfl⟩
                clear cw1
                go_wp2
                go_ret3
                exact ⟨by rw [HR.out]; rfl, rfl⟩
        · have hst := hide (hh.out.1.trans (digs_stop hlt hw h95))
          have g4 : ((l[j].toNat : Int) == 95) = false := by rw [beq_eq_false_iff_ne]; exact fun e => h95 (UInt8.toNat_inj.1 (by show l[j].toNat = 95; omega))
          have cd := fun W => digit_any l[j] W
          have HE : Hid (((l.length - (l.drop j).length : Nat) : Int) = (j : Int)) := by show _ = _; rw [List.length_drop]; omega
          cases p with
          | false =>
            obtain rfl := hpf rfl
            have HR : Hid (digV l.length (digs base most false 0 (l.drop j)) = .tuple #[.int .i64 0, .int .i64 0, .bool false]) := by show _ = _; rw [hst.out, if_neg (by decide)]; rfl
            clear hst hh HX hw cd hpf h95
            generalize ((worth l[j] : Nat) : Int) = v at *
            generalize (l[j].toNat : Int) = x at *
            go_wp2_with fail
            refine (cw _).mono ?_
            rintro e w1 ⟨rfl, rfl⟩
            clear cw
            go_wp2
            go_ret3
            exact ⟨by rw [HR.out]; rfl, rfl⟩
          | true =>
            obtain ⟨hkj2, hj1, hwp⟩ := hh.out.2.1 rfl
            have g5 : ((j : Int) == (k : Int)) = false := by rw [beq_eq_false_iff_ne]; omega
            cases hdg : isDig l[j] with
            | true =>
              have HR : Hid (digV l.length (digs base most false 0 (l.drop k)) = .tuple #[.int .i64 0, .int .i64 0, .bool false]) := by show _ = _; rw [hst.out, if_pos rfl, if_pos hdg]; rfl
              rw [hdg] at cd
              clear hst hh HX hw hpf h95 hdg hwp
              generalize ((worth l[j] : Nat) : Int) = v at *
              generalize (l[j].toNat : Int) = x at *
              go_wp2_with fail
              refine (cw _).mono ?_
              rintro e w1 ⟨rfl, rfl⟩
              clear cw
              go_wp2_with fail
              refine (cd _).mono ?_
              rintro e w1 ⟨rfl, rfl⟩
              clear cd
              go_wp2
              go_ret3
              exact ⟨by rw [HR.out]; rfl, rfl⟩
            | false =>
              have HR : Hid (digV l.length (digs base most false 0 (l.drop k)) = .tuple #[.int .i64 (n : Int), .int .i64 (j : Int), .bool true]) := by
                show _ = _
                rw [hst.out, if_pos rfl, if_neg (by rw [hdg]; decide)]
                show Value.tuple #[.int .i64 (n : Int), .int .i64 ((l.length - (l.drop j).length : Nat) : Int), .bool true] = _
                rw [HE.out]
              rw [hdg] at cd
              clear hst hh HX hw hpf h95 hdg hwp
              generalize ((worth l[j] : Nat) : Int) = v at *
              generalize (l[j].toNat : Int) = x at *
              go_wp2_with fail
              refine (cw _).mono ?_
              rintro e w1 ⟨rfl, rfl⟩
              clear cw
              go_wp2_with fail
              refine (cd _).mono ?_
              rintro e w1 ⟨rfl, rfl⟩
              clear cd
              go_wp2
              go_ret3
              exact ⟨by rw [HR.out]; rfl, rfl⟩
    · have hjj : j = l.length := by omega
      have g1 : ¬ (j : Int) < (s.size : Int) := by have := hsz.out; omega
      have hdn : l.drop j = [] := List.drop_of_length_le (by omega)
      cases p with
      | false =>
        have hjk : j = k := (hh.out.2.2 rfl).elim id fun h => absurd (headW_at.1 h).1 hlt
        have HR : Hid (digV l.length (digs base most false 0 (l.drop k)) = .tuple #[.int .i64 0, .int .i64 0, .bool false]) := by show _ = _; rw [hh.out.1, hdn]; rfl
        subst hjk
        clear hh HX hjj hdn
        go_wp2
        go_ret3
        exact ⟨by rw [HR.out]; rfl, rfl⟩
      | true =>
        obtain ⟨hkj2, hj1, hwp⟩ := hh.out.2.1 rfl
        have g5 : ((j : Int) == (k : Int)) = false := by rw [beq_eq_false_iff_ne]; omega
        have HR : Hid (digV l.length (digs base most false 0 (l.drop k)) = .tuple #[.int .i64 (n : Int), .int .i64 (j : Int), .bool true]) := by
          show _ = _
          rw [hh.out.1, hdn]
          show Value.tuple #[.int .i64 (n : Int), .int .i64 ((l.length - 0 : Nat) : Int), .bool true] = _
          rw [Nat.sub_zero, ← hjj]
        clear hh HX hjj hdn hwp
        go_wp2
        go_ret3
        exact ⟨by rw [HR.out]; rfl, rfl⟩
end Go.Proofs.YtfcnbiikjopajaaDoor
