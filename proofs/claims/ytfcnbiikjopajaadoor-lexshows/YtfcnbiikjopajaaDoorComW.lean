/- The contract of lex.couldCome. -/
import Derived.Test.YtfcnbiikjopajaaDoorShnW
import Derived.Test.YtfcnbiikjopajaaDoorWordW
namespace Go.Proofs.YtfcnbiikjopajaaDoor
open Go.RowKit
theorem eq41 (k n t a k' n' t' a' : Int) (s s' : ByteArray) : ∃ b, (∀ W, (binOp .eql 41 (.agg #[.int .i64 k, .string s, .int .i64 n, .int .i64 t, .int .i64 a]) (.agg #[.int .i64 k', .string s', .int .i64 n', .int .i64 t', .int .i64 a'])).run Tryd.prog W = .ok (.bool b) W) ∧ (b = true ↔ k = k' ∧ s = s' ∧ n = n' ∧ t = t' ∧ a = a') := by
  refine ⟨decide (k = k' ∧ s = s' ∧ n = n' ∧ t = t' ∧ a = a'), fun W => ?_, by simp⟩
  by_cases h1 : k = k'
  · by_cases h2 : s = s'
    · by_cases h3 : n = n'
      · by_cases h4 : t = t'
        · by_cases h5 : a = a'
          · subst h1 h2 h3 h4 h5; simp [go_sem]
          · subst h1 h2 h3 h4; simp [go_sem, h5]
        · subst h1 h2 h3; simp [go_sem, h4]
      · subst h1 h2; simp [go_sem, h3]
    · subst h1
      have hb : (s.toList == s'.toList) = false := by rw [beq_text]; exact decide_eq_false h2
      simp [go_sem, h2, hb]
  · simp [go_sem, h1]
theorem shownP_len (k : Int) (s : Bs) (n ty : Int) (hs : s.length ≤ 140737488351232) : (shownP k s n ty).length ≤ 140737488351232 := by
  have h1 := hexI_len (decide (n + 4294967296 < 0)) (n + 4294967296).natAbs
  have h2 := signedL_len n
  unfold shownP
  split
  · exact hs
  · split
    · split
      · rw [List.length_append, up_length]; simp; omega
      · omega
    · split
      · simp; omega
      · split
        · have : (tyName ty).length ≤ 4 := by unfold tyName; split <;> (try split) <;> simp
          simp; omega
        · simp
set_option maxRecDepth 100000 in
set_option maxHeartbeats 3200000 in
theorem come_any (k : Int) (s : Bs) (n ty at_ : Int) (hs : s.length ≤ 140737488351232) (h0 : -9223372036854775808 ≤ n) (h1 : n ≤ 9223372036854775807) (w : World) (hg : Glo w) (h3 : Lay3 w) : Calls Tryd.prog 27 #[.agg #[.int .i64 k, .string ⟨s.toArray⟩, .int .i64 n, .int .i64 ty, .int .i64 at_]] w fun e w' => (∃ b, e = .returned (.bool b) ∧ (b = true ↔ tokO (shownP k s n ty) = some (⟨k, s, n, ty⟩, []))) ∧ Below w.heap.size w w' := by
  have b0 := (Below.refl w.heap.size w).alloc (Nat.le_refl _) (.cells #[.int .i64 k, .string ⟨s.toArray⟩, .int .i64 n, .int .i64 ty, .int .i64 at_] 41)
  have c1 := shown_any k s n ty at_ h0 h1 _ (hg.below b0 hg.lt) (h3.below b0)
  have c2 := fun W hW => token_any (shownP k s n ty) (by have := shownP_len k s n ty hs; omega) W hW
  have HSz := hide (list_size (shownP k s n ty))
  have HG := hide hg
  have m0 : (w.alloc (.cells #[.int .i64 k, .string ⟨s.toArray⟩, .int .i64 n, .int .i64 ty, .int .i64 at_] 41)).cell? ⟨w.heap.size, 0, none⟩ = some (.int .i64 k) := by simp
  have m1 : (w.alloc (.cells #[.int .i64 k, .string ⟨s.toArray⟩, .int .i64 n, .int .i64 ty, .int .i64 at_] 41)).cell? ⟨w.heap.size, 1, none⟩ = some (.string ⟨s.toArray⟩) := by simp
  have m2 : (w.alloc (.cells #[.int .i64 k, .string ⟨s.toArray⟩, .int .i64 n, .int .i64 ty, .int .i64 at_] 41)).cell? ⟨w.heap.size, 2, none⟩ = some (.int .i64 n) := by simp
  have m3 : (w.alloc (.cells #[.int .i64 k, .string ⟨s.toArray⟩, .int .i64 n, .int .i64 ty, .int .i64 at_] 41)).cell? ⟨w.heap.size, 3, none⟩ = some (.int .i64 ty) := by simp
  have m4 : (w.alloc (.cells #[.int .i64 k, .string ⟨s.toArray⟩, .int .i64 n, .int .i64 ty, .int .i64 at_] 41)).cell? ⟨w.heap.size, 4, none⟩ = some (.int .i64 at_) := by simp
  have hz : w.heap.size < (w.alloc (.cells #[.int .i64 k, .string ⟨s.toArray⟩, .int .i64 n, .int .i64 ty, .int .i64 at_] 41)).heap.size := by rw [World.size_alloc]; omega
  obtain ⟨S, hS⟩ : ∃ S, S = (⟨s.toArray⟩ : ByteArray) := ⟨_, rfl⟩
  rw [← hS] at c1 m0 m1 m2 m3 m4 hz b0 ⊢
  have HS := hide hS
  obtain ⟨R, hR⟩ : ∃ R, R = (⟨(shownP k s n ty).toArray⟩ : ByteArray) := ⟨_, rfl⟩
  rw [← hR] at c1 c2 HSz
  have HB0 := hide b0
  clear hS hR hg h3 b0 h0 h1 hs
  go_enter Tryd.func27, Tryd.ntmps27
  go_wp2_with fail
  refine c1.mono ?_
  rintro e w1 ⟨rfl, hb1⟩
  have B1 := HB0.out.trans (hb1.mono HB0.out.size)
  clear c1
  go_wp2_with fail
  refine (c2 _ (HG.out.below B1 HG.out.lt)).mono ?_
  rintro e w2 ⟨⟨v, rfl, hv⟩, hb2⟩
  have hb12 := hb1.trans (hb2.mono hb1.size)
  have B2 := hide (HB0.out.trans (hb12.mono HB0.out.size))
  have z2 : w.heap.size < w2.heap.size := by have := hb12.size; omega
  have p0 := (hb12.cell (p := ⟨w.heap.size, 0, none⟩) hz).trans m0
  have p1 := (hb12.cell (p := ⟨w.heap.size, 1, none⟩) hz).trans m1
  have p2 := (hb12.cell (p := ⟨w.heap.size, 2, none⟩) hz).trans m2
  have p3 := (hb12.cell (p := ⟨w.heap.size, 3, none⟩) hz).trans m3
  have p4 := (hb12.cell (p := ⟨w.heap.size, 4, none⟩) hz).trans m4
  have a0 : ∀ o, (w2.alloc o).cell? ⟨w.heap.size, 0, none⟩ = some (.int .i64 k) := fun o => (World.cell?_alloc_lt _ _ _ z2).trans p0
  have a1 : ∀ o, (w2.alloc o).cell? ⟨w.heap.size, 1, none⟩ = some (.string S) := fun o => (World.cell?_alloc_lt _ _ _ z2).trans p1
  have a2 : ∀ o, (w2.alloc o).cell? ⟨w.heap.size, 2, none⟩ = some (.int .i64 n) := fun o => (World.cell?_alloc_lt _ _ _ z2).trans p2
  have a3 : ∀ o, (w2.alloc o).cell? ⟨w.heap.size, 3, none⟩ = some (.int .i64 ty) := fun o => (World.cell?_alloc_lt _ _ _ z2).trans p3
  have a4 : ∀ o, (w2.alloc o).cell? ⟨w.heap.size, 4, none⟩ = some (.int .i64 at_) := fun o => (World.cell?_alloc_lt _ _ _ z2).trans p4
  have zz := B2.out.size
  clear c2 hb1 hb2 hb12 B1 m0 m1 m2 m3 m4 p0 p1 p2 p3 p4
  cases hto : tokO (shownP k s n ty) with
  | none =>
    rw [hto] at hv
    obtain ⟨t, q, rfl⟩ := hv
    unfold tkA
    have HTO := hide hto
    clear hto
    go_wp2
    go_ret
    exact ⟨⟨false, rfl, by rw [HTO.out]; constructor <;> intro h <;> cases h⟩, B2.out.alloc zz _⟩
  | some x =>
    obtain ⟨t, r⟩ := x
    rw [hto] at hv
    obtain rfl : v = _ := hv
    obtain ⟨Z, hZ⟩ : ∃ Z : Int, Z = (((shownP k s n ty).length - r.length : Nat) : Int) := ⟨_, rfl⟩
    rw [← hZ]
    obtain ⟨b, hrun, hbb⟩ := eq41 t.kind t.n t.ty at_ k n ty at_ ⟨t.s.toArray⟩ S
    have HBB := hide hbb
    have HTO := hide hto
    unfold tkA
    by_cases hr : r = []
    · have hz2 : (Z == (R.size : Int)) = true := by rw [beq_iff_eq, hZ, HSz.out, hr]; simp
      have HF : Hid (b = true ↔ (some (t, r) : Option (Tk × Bs)) = some (⟨k, s, n, ty⟩, [])) := by
        show _ ↔ _
        rw [HBB.out, HS.out, hr]
        constructor
        · rintro ⟨q1, q2, q3, q4, _⟩
          have q2' : t.s = s := by simpa using congrArg (fun x : ByteArray => x.data.toList) q2
          obtain ⟨tk, tss, tn, tt⟩ := t
          simp only [] at q1 q2' q3 q4
          rw [q1, q2', q3, q4]
        · intro h
          injection h with h
          injection h with h _
          subst h
          exact ⟨rfl, rfl, rfl, rfl, rfl⟩
      clear hto hbb HBB hZ hr HSz
      generalize (⟨t.s.toArray⟩ : ByteArray) = tS at *
      go_wp2
      go_ret
      exact ⟨⟨b, rfl, by rw [HTO.out]; exact HF.out⟩, B2.out.alloc zz _⟩
    · have hz2 : (Z == (R.size : Int)) = false := by
        rw [beq_eq_false_iff_ne, hZ, HSz.out]
        have hl : 0 < r.length := List.length_pos_iff.2 hr
        have h2 : 0 < (shownP k s n ty).length := by
          rcases Nat.eq_zero_or_pos (shownP k s n ty).length with h | h
          · exfalso
            rw [List.eq_nil_of_length_eq_zero h] at hto
            injection hto with hto
            injection hto with _ hto
            exact hr hto.symm
          · exact h
        omega
      have HF : Hid (false = true ↔ (some (t, r) : Option (Tk × Bs)) = some (⟨k, s, n, ty⟩, [])) := by
        show _ ↔ _
        constructor
        · intro h; cases h
        · intro h
          injection h with h
          injection h with _ h
          exact absurd h hr
      clear hto hbb HBB hZ hr HSz hrun
      generalize (⟨t.s.toArray⟩ : ByteArray) = tS at *
      go_wp2
      go_ret
      exact ⟨⟨false, rfl, by rw [HTO.out]; exact HF.out⟩, B2.out.alloc zz _⟩
end Go.Proofs.YtfcnbiikjopajaaDoor
