/- The contract of the document's unit. -/
import Derived.Test.YtfcnbiikjopajaaDoorRDigW
import Derived.Test.YtfcnbiikjopajaaDoorRUpW
namespace Go.Proofs.YtfcnbiikjopajaaDoor
open Go.RowKit
/-- unit's answer -/
def uniV (L : Nat) : Option (Nat × Bs) → Value
  | none => .tuple #[.int .i64 (-1), .int .i64 0]
  | some (u, r) => .tuple #[.int .i64 (u : Int), .int .i64 ((L - r.length : Nat) : Int)]
theorem one_text (a b : UInt8) : decide ((⟨(upL [a]).toArray⟩ : ByteArray) = ⟨#[b]⟩) = decide (upC a = b) := by
  rw [show (⟨#[b]⟩ : ByteArray) = ⟨[b].toArray⟩ from rfl, text_eq]
  apply decide_eq_decide.2
  simp [upL]
theorem one_list (a b : UInt8) : ((⟨(upL [a]).toArray⟩ : ByteArray).toList == [b]) = decide (upC a = b) := by
  have h := (beq_text ⟨(upL [a]).toArray⟩ ⟨#[b]⟩).trans (one_text a b)
  rw [show (⟨#[b]⟩ : ByteArray).toList = [b] from by simp [go_sem]] at h
  exact h
theorem rest_len {l : Bs} {j : Nat} (hj : j ≤ l.length) : ((l.length - (l.drop j).length : Nat) : Int) = (j : Int) := by rw [List.length_drop]; omega
set_option maxRecDepth 100000 in
set_option maxHeartbeats 3200000 in
theorem runit_any (l : Bs) (k : Nat) (hl : l.length ≤ 65536) (hk : k ≤ l.length) (w : World) : Calls Tryd.prog 78 #[.string ⟨l.toArray⟩, .int .i64 (k : Int)] w fun e w' => e = .returned (uniV l.length (unitL (l.drop k))) ∧ Below w.heap.size w w' := by
  have hsz := list_size l
  have k0 : (0 : Int) ≤ (k : Int) := by omega
  have k1 : (k : Int) ≤ 65536 := by omega
  have i0 : ((⟨l.toArray⟩ : ByteArray).size : Int) ≤ 65536 := by omega
  by_cases hlt : k < l.length
  · have g1 : ¬ ((⟨l.toArray⟩ : ByteArray).size : Int) ≤ (k : Int) := by omega
    have xs := fun W => slice_mid ⟨l.toArray⟩ k (k + 1) (by omega) (by omega) W
    rw [show ((l.toArray : Array UInt8).toList.drop k).take (k + 1 - k) = [l[k]] from by rw [show k + 1 - k = 1 from by omega, show (l.toArray : Array UInt8).toList = l from rfl, dropAt hlt]; rfl, show ((k + 1 : Nat) : Int) = (k : Int) + 1 from by omega] at xs
    have cu := fun W => rupper_any [l[k]] (by simp) W
    have b68 := one_list l[k] 68
    have b72 := one_list l[k] 72
    have b83 := one_list l[k] 83
    have b77 := one_list l[k] 77
    have HU : Hid (unitL (l.drop k) = if upC l[k] = 68 then some (0, l.drop (k + 1)) else if upC l[k] = 72 then some (1, l.drop (k + 1)) else if upC l[k] = 83 then some (3, l.drop (k + 1))
        else if upC l[k] = 77 then (if (l.drop (k + 1)).head?.map upC = some 83 then some (4, (l.drop (k + 1)).tail) else some (2, l.drop (k + 1))) else none) := by
      show _ = _
      conv => lhs; rw [dropAt hlt, unitL]
    have HE := hide (rest_len (l := l) (j := k + 1) (by omega))
    have CU2 : Hid (∀ (h : k + 1 < l.length) W, Calls Tryd.prog 13 #[.string ⟨[l[k + 1]].toArray⟩] W fun e w' => e = .returned (.string ⟨(upL [l[k + 1]]).toArray⟩) ∧ Below W.heap.size W w') := fun h W => rupper_any [l[k + 1]] (by simp) W
    have X2 : Hid (∀ (h : k + 1 < l.length) W, (Instr.slice 9 (.string ⟨l.toArray⟩) (some (.int .i64 ((k : Int) + 1))) (some (.int .i64 ((k : Int) + 2))) none).run Tryd.prog W = .ok (.string ⟨[l[k + 1]].toArray⟩) W) := fun h W => by
      have := slice_mid ⟨l.toArray⟩ (k + 1) (k + 2) (by omega) (by omega) W
      rw [show ((l.toArray : Array UInt8).toList.drop (k + 1)).take (k + 2 - (k + 1)) = [l[k + 1]] from by rw [show k + 2 - (k + 1) = 1 from by omega, show (l.toArray : Array UInt8).toList = l from rfl, dropAt h]; rfl, show ((k + 1 : Nat) : Int) = (k : Int) + 1 from by omega, show ((k + 2 : Nat) : Int) = (k : Int) + 2 from by omega] at this
      exact this
    generalize (⟨(upL [l[k]]).toArray⟩ : ByteArray) = u at *
    generalize (⟨[l[k]].toArray⟩ : ByteArray) = t at *
    have HSZ := hide hsz
    generalize (⟨l.toArray⟩ : ByteArray) = s at *
    clear hsz
    go_enter Tryd.func78, Tryd.ntmps78
    go_wp2_with fail
    refine (cu _).mono ?_
    rintro e w1 ⟨rfl, hb⟩
    have HB := hide hb
    clear hb cu xs
    by_cases h68 : upC l[k] = 68
    · rw [decide_eq_true h68] at b68
      have HR : Hid (uniV l.length (unitL (l.drop k)) = .tuple #[.int .i64 0, .int .i64 ((k : Int) + 1)]) := by
        show _ = _
        rw [HU.out, if_pos h68]
        show Value.tuple #[.int .i64 0, .int .i64 ((l.length - (l.drop (k + 1)).length : Nat) : Int)] = _
        rw [HE.out]; rfl
      clear HU CU2 X2 b72 b83 b77 h68
      go_wp2
      go_ret2
      exact ⟨by rw [HR.out]; rfl, HB.out⟩
    rw [decide_eq_false h68] at b68
    by_cases h72 : upC l[k] = 72
    · rw [decide_eq_true h72] at b72
      have HR : Hid (uniV l.length (unitL (l.drop k)) = .tuple #[.int .i64 1, .int .i64 ((k : Int) + 1)]) := by
        show _ = _
        rw [HU.out, if_neg h68, if_pos h72]
        show Value.tuple #[.int .i64 1, .int .i64 ((l.length - (l.drop (k + 1)).length : Nat) : Int)] = _
        rw [HE.out]; rfl
      clear HU CU2 X2 b83 b77 h68 h72
      go_wp2
      go_ret2
      exact ⟨by rw [HR.out]; rfl, HB.out⟩
    rw [decide_eq_false h72] at b72
    by_cases h83 : upC l[k] = 83
    · rw [decide_eq_true h83] at b83
      have HR : Hid (uniV l.length (unitL (l.drop k)) = .tuple #[.int .i64 3, .int .i64 ((k : Int) + 1)]) := by
        show _ = _
        rw [HU.out, if_neg h68, if_neg h72, if_pos h83]
        show Value.tuple #[.int .i64 3, .int .i64 ((l.length - (l.drop (k + 1)).length : Nat) : Int)] = _
        rw [HE.out]; rfl
      clear HU CU2 X2 b77 h68 h72 h83
      go_wp2
      go_ret2
      exact ⟨by rw [HR.out]; rfl, HB.out⟩
    rw [decide_eq_false h83] at b83
    by_cases h77 : upC l[k] = 77
    · rw [decide_eq_true h77] at b77
      have HU2 : Hid (unitL (l.drop k) = if (l.drop (k + 1)).head?.map upC = some 83 then some (4, (l.drop (k + 1)).tail) else some (2, l.drop (k + 1))) := by
        show _ = _
        rw [HU.out, if_neg h68, if_neg h72, if_neg h83, if_pos h77]
      clear HU
      by_cases hn : k + 1 < l.length
      · have g2 : (k : Int) + 1 < (s.size : Int) := by have := HSZ.out; omega
        have cu2 := CU2.out hn
        have x2 := X2.out hn
        have c83 := one_list l[k + 1] 83
        have HU3 : Hid (unitL (l.drop k) = if upC l[k + 1] = 83 then some (4, l.drop (k + 2)) else some (2, l.drop (k + 1))) := by
          show _ = _
          rw [HU2.out]
          conv => lhs; rw [show (l.drop (k + 1)).head?.map upC = some (upC l[k + 1]) from by rw [dropAt hn]; rfl, List.tail_drop]
          by_cases h : upC l[k + 1] = 83
          · rw [if_pos h, if_pos (by rw [h])]
          · rw [if_neg h, if_neg (fun e => h (Option.some.inj e))]
        generalize (⟨(upL [l[k + 1]]).toArray⟩ : ByteArray) = u2 at *
        generalize (⟨[l[k + 1]].toArray⟩ : ByteArray) = t2 at *
        clear CU2 X2 HU2 h68 h72 h83 h77
        go_wp2_with fail
        refine (cu2 _).mono ?_
        rintro e w2 ⟨rfl, hb2⟩
        have HB2 := hide (HB.out.trans (hb2.mono HB.out.size))
        clear cu2 x2 hb2
        by_cases h : upC l[k + 1] = 83
        · rw [decide_eq_true h] at c83
          have HE2 := hide (rest_len (l := l) (j := k + 2) (by omega))
          have HR : Hid (uniV l.length (unitL (l.drop k)) = .tuple #[.int .i64 4, .int .i64 ((k : Int) + 2)]) := by
            show _ = _
            rw [HU3.out, if_pos h]
            show Value.tuple #[.int .i64 4, .int .i64 ((l.length - (l.drop (k + 2)).length : Nat) : Int)] = _
            rw [HE2.out]; rfl
          clear HU3 HE2 h
          go_wp2
          go_ret2
          exact ⟨by rw [HR.out]; rfl, HB2.out⟩
        · rw [decide_eq_false h] at c83
          have HR : Hid (uniV l.length (unitL (l.drop k)) = .tuple #[.int .i64 2, .int .i64 ((k : Int) + 1)]) := by
            show _ = _
            rw [HU3.out, if_neg h]
            show Value.tuple #[.int .i64 2, .int .i64 ((l.length - (l.drop (k + 1)).length : Nat) : Int)] = _
            rw [HE.out]; rfl
          clear HU3 h
          go_wp2
          go_ret2
          exact ⟨by rw [HR.out]; rfl, HB2.out⟩
      · have g2 : ¬ (k : Int) + 1 < (s.size : Int) := by have := HSZ.out; omega
        have HR : Hid (uniV l.length (unitL (l.drop k)) = .tuple #[.int .i64 2, .int .i64 ((k : Int) + 1)]) := by
          show _ = _
          rw [HU2.out, if_neg (by rw [List.drop_of_length_le (by omega)]; decide)]
          show Value.tuple #[.int .i64 2, .int .i64 ((l.length - (l.drop (k + 1)).length : Nat) : Int)] = _
          rw [HE.out]; rfl
        clear CU2 X2 HU2 h68 h72 h83 h77
        go_wp2
        go_ret2
        exact ⟨by rw [HR.out]; rfl, HB.out⟩
    · rw [decide_eq_false h77] at b77
      have HR : Hid (uniV l.length (unitL (l.drop k)) = .tuple #[.int .i64 (-1), .int .i64 0]) := by
        show _ = _
        rw [HU.out, if_neg h68, if_neg h72, if_neg h83, if_neg h77]; rfl
      clear HU CU2 X2 h68 h72 h83 h77
      go_wp2
      go_ret2
      exact ⟨by rw [HR.out]; rfl, HB.out⟩
  · have g1 : ((⟨l.toArray⟩ : ByteArray).size : Int) ≤ (k : Int) := by omega
    have hd : l.drop k = [] := List.drop_of_length_le (by omega)
    rw [hd]
    generalize (⟨l.toArray⟩ : ByteArray) = s at *
    clear hsz hd
    go_enter Tryd.func78, Tryd.ntmps78
    go_wp2
    go_ret2
    exact ⟨rfl, Below.refl _ _⟩
end Go.Proofs.YtfcnbiikjopajaaDoor
