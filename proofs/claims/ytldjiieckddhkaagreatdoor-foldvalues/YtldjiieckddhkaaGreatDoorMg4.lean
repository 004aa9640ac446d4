/- EmW | PLst | DepP -/
import Derived.Test.YtldjiieckddhkaaGreatDoorMg3
import Derived.OwnWalk
import Derived.Test.YtldjiieckddhkaaGreatDoorMg2
namespace Go.Proofs.YtldjiieckddhkaaGreatDoor
open Go.RowKit
theorem eq44 (k n t k' n' t' : Int) (s f s' f' : ByteArray) : ∃ b, (∀ W, (binOp .eql 38 (.agg #[.int .i64 k, .int .i64 n, .int .i64 t, .string s, .string f]) (.agg #[.int .i64 k', .int .i64 n', .int .i64 t', .string s', .string f'])).run Tryz.prog W = .ok (.bool b) W) ∧ b = decide (k = k' ∧ n = n' ∧ t = t' ∧ s = s' ∧ f = f') := by
  refine ⟨decide (k = k' ∧ n = n' ∧ t = t' ∧ s = s' ∧ f = f'), fun W => ?_, rfl⟩
  by_cases h1 : k = k'
  · by_cases h2 : n = n'
    · by_cases h3 : t = t'
      · by_cases h4 : s = s'
        · by_cases h5 : f = f'
          · subst h1 h2 h3 h4 h5; simp [go_sem]
          · subst h1 h2 h3 h4
            have hb : (f.toList == f'.toList) = false := by rw [beq_text]; exact decide_eq_false h5
            simp [go_sem, h5, hb]
        · subst h1 h2 h3
          have hb : (s.toList == s'.toList) = false := by rw [beq_text]; exact decide_eq_false h4
          simp [go_sem, h4, hb]
      · subst h1 h2; simp [go_sem, h3]
    · subst h1; simp [go_sem, h2]
  · simp [go_sem, h1]
theorem op_some (n : Int) : (opFind n).isSome = (decide (1 ≤ n) && decide (n ≤ 16)) := by
  by_cases h : 1 ≤ n ∧ n ≤ 16
  · have hn : n = 1 ∨ n = 2 ∨ n = 3 ∨ n = 4 ∨ n = 5 ∨ n = 6 ∨ n = 7 ∨ n = 8 ∨ n = 9 ∨ n = 10 ∨ n = 11 ∨ n = 12 ∨ n = 13 ∨ n = 14 ∨ n = 15 ∨ n = 16 := by omega
    rcases hn with rfl | rfl | rfl | rfl | rfl | rfl | rfl | rfl | rfl | rfl | rfl | rfl | rfl | rfl | rfl | rfl <;> rfl
  · have e : (decide (1 ≤ n) && decide (n ≤ 16)) = false := by rw [Bool.and_eq_false_iff]; simp; omega
    rw [e]
    have : opFind n = none := by
      unfold opFind
      rw [List.find?_eq_none]
      intro r hr
      have hall : ∀ r ∈ opRows, 1 ≤ r.2.2.2 ∧ r.2.2.2 ≤ 16 := by decide
      have := hall r hr
      simp
      omega
    rw [this]; rfl
theorem cv_some (n : Int) : (cvFind n).isSome = (decide (2 ≤ n) && decide (n ≤ 4)) := by
  by_cases h : 2 ≤ n ∧ n ≤ 4
  · have hn : n = 2 ∨ n = 3 ∨ n = 4 := by omega
    rcases hn with rfl | rfl | rfl <;> rfl
  · have e : (decide (2 ≤ n) && decide (n ≤ 4)) = false := by rw [Bool.and_eq_false_iff]; simp; omega
    rw [e]
    have : cvFind n = none := by
      unfold cvFind
      rw [List.find?_eq_none]
      intro r hr
      have hall : ∀ r ∈ cvRows, 2 ≤ r.2 ∧ r.2 ≤ 4 := by decide
      have := hall r hr
      simp
      omega
    rw [this]; rfl
theorem text_nil {s : Bs} : ((⟨s.toArray⟩ : ByteArray) = ⟨#[]⟩) ↔ s = [] := by
  constructor
  · intro h
    simpa using congrArg (fun x : ByteArray => x.data.toList) h
  · rintro rfl; rfl
set_option maxRecDepth 100000 in
set_option maxHeartbeats 3200000 in
theorem may_num (n t : Int) (s f : Bs) (w : World) (hg : Glo w) : Calls Tryz.prog 76 #[.agg #[.int .i64 1, .int .i64 n, .int .i64 t, .string ⟨s.toArray⟩, .string ⟨f.toArray⟩]] w fun e w' => e = .returned (.bool (mayP ⟨1, s, f, n, t⟩)) ∧ Below w.heap.size w w' := by
  have HM : Hid (mayP ⟨1, s, f, n, t⟩ = (numB t n && decide (s = [] ∧ f = []))) := by
    show (decide (s = []) && (decide (f = []) && numB t n)) = _
    rw [Bool.eq_iff_iff]; simp; constructor <;> (rintro ⟨a, b, c⟩; exact ⟨by assumption, by assumption, by assumption⟩)
  have B0 := hide ((Below.refl w.heap.size w).alloc (Nat.le_refl _) (.cells #[.int .i64 1, .int .i64 n, .int .i64 t, .string ⟨s.toArray⟩, .string ⟨f.toArray⟩] 38))
  have c := isNumber_any t n _ (hg.below B0.out hg.lt).span
  obtain ⟨b, hrun, hb⟩ := eq44 1 n t 1 n t ⟨s.toArray⟩ ⟨f.toArray⟩ ⟨#[]⟩ ⟨#[]⟩
  have HB : Hid (b = decide (s = [] ∧ f = [])) := by
    show _ = _
    rw [hb, decide_eq_decide, text_nil, text_nil]; simp
  generalize (⟨s.toArray⟩ : ByteArray) = S at *
  generalize (⟨f.toArray⟩ : ByteArray) = F at *
  clear hb hg
  go_enter Tryz.func76, Tryz.ntmps76
  go_wp2_with fail
  refine c.mono ?_
  rintro e w1 ⟨rfl, hw1⟩
  subst hw1
  cases hn : numB t n with
  | true =>
    go_wp2
    go_ret
    exact ⟨ret_bool (by rw [HM.out, hn, ← HB.out]; rfl), B0.out⟩
  | false =>
    go_wp2
    go_ret
    exact ⟨ret_bool (by rw [HM.out, hn]; rfl), B0.out⟩
set_option maxRecDepth 100000 in
set_option maxHeartbeats 3200000 in
theorem may_name (k n t : Int) (hk : k = 2 ∨ k = 3) (s f : Bs) (w : World) (hg : Glo w) : Calls Tryz.prog 76 #[.agg #[.int .i64 k, .int .i64 n, .int .i64 t, .string ⟨s.toArray⟩, .string ⟨f.toArray⟩]] w fun e w' => e = .returned (.bool (mayP ⟨k, s, f, n, t⟩)) ∧ Below w.heap.size w w' := by
  have HM : Hid (mayP ⟨k, s, f, n, t⟩ = (nameB s && decide (n = 0 ∧ t = 0 ∧ f = []))) := by
    show _ = _
    unfold mayP
    simp only []
    rw [if_neg (by omega), if_pos hk]
    rw [Bool.eq_iff_iff]; simp; constructor <;> (rintro ⟨a, b, c, d⟩; exact ⟨by assumption, by assumption, by assumption, by assumption⟩)
  have B0 := hide ((Below.refl w.heap.size w).alloc (Nat.le_refl _) (.cells #[.int .i64 k, .int .i64 n, .int .i64 t, .string ⟨s.toArray⟩, .string ⟨f.toArray⟩] 38))
  have c := eName_any s _ (hg.below B0.out hg.lt).kw
  obtain ⟨b, hrun, hb⟩ := eq44 k n t k 0 0 ⟨s.toArray⟩ ⟨f.toArray⟩ ⟨s.toArray⟩ ⟨#[]⟩
  have HB : Hid (b = decide (n = 0 ∧ t = 0 ∧ f = [])) := by
    show _ = _
    rw [hb, decide_eq_decide, text_nil]; simp
  generalize (⟨s.toArray⟩ : ByteArray) = S at *
  generalize (⟨f.toArray⟩ : ByteArray) = F at *
  clear hb hg
  rcases hk with rfl | rfl
  · go_enter Tryz.func76, Tryz.ntmps76
    go_wp2_with fail
    refine c.mono ?_
    rintro e w1 ⟨rfl, hw1⟩
    subst hw1
    cases hn : nameB s with
    | true =>
      go_wp2
      go_ret
      exact ⟨ret_bool (by rw [HM.out, hn, ← HB.out]; rfl), B0.out⟩
    | false =>
      go_wp2
      go_ret
      exact ⟨ret_bool (by rw [HM.out, hn]; rfl), B0.out⟩
  · go_enter Tryz.func76, Tryz.ntmps76
    go_wp2_with fail
    refine c.mono ?_
    rintro e w1 ⟨rfl, hw1⟩
    subst hw1
    cases hn : nameB s with
    | true =>
      go_wp2
      go_ret
      exact ⟨ret_bool (by rw [HM.out, hn, ← HB.out]; rfl), B0.out⟩
    | false =>
      go_wp2
      go_ret
      exact ⟨ret_bool (by rw [HM.out, hn]; rfl), B0.out⟩
set_option maxRecDepth 100000 in
set_option maxHeartbeats 3200000 in
theorem may_field (n t : Int) (s f : Bs) (w : World) (hg : Glo w) : Calls Tryz.prog 76 #[.agg #[.int .i64 4, .int .i64 n, .int .i64 t, .string ⟨s.toArray⟩, .string ⟨f.toArray⟩]] w fun e w' => e = .returned (.bool (mayP ⟨4, s, f, n, t⟩)) ∧ Below w.heap.size w w' := by
  have HM : Hid (mayP ⟨4, s, f, n, t⟩ = (nameB s && (wordB f && decide (n = 0 ∧ t = 0)))) := by
    show (decide (n = 0) && (decide (t = 0) && (nameB s && wordB f))) = _
    rw [Bool.eq_iff_iff]; simp; constructor <;> (rintro ⟨a, b, c, d⟩; exact ⟨by assumption, by assumption, by assumption, by assumption⟩)
  have B0 := hide ((Below.refl w.heap.size w).alloc (Nat.le_refl _) (.cells #[.int .i64 4, .int .i64 n, .int .i64 t, .string ⟨s.toArray⟩, .string ⟨f.toArray⟩] 38))
  have c := eName_any s _ (hg.below B0.out hg.lt).kw
  have c2 := fun W => eWord_any f W
  obtain ⟨b, hrun, hb⟩ := eq44 4 n t 4 0 0 ⟨s.toArray⟩ ⟨f.toArray⟩ ⟨s.toArray⟩ ⟨f.toArray⟩
  have HB : Hid (b = decide (n = 0 ∧ t = 0)) := by
    show _ = _
    rw [hb, decide_eq_decide]; simp
  generalize (⟨s.toArray⟩ : ByteArray) = S at *
  generalize (⟨f.toArray⟩ : ByteArray) = F at *
  clear hb hg
  go_enter Tryz.func76, Tryz.ntmps76
  go_wp2_with fail
  refine c.mono ?_
  rintro e w1 ⟨rfl, hw1⟩
  subst hw1
  cases hn : nameB s with
  | true =>
    go_wp2_with fail
    refine (c2 _).mono ?_
    rintro e w1 ⟨rfl, hw1⟩
    subst hw1
    cases hf : wordB f with
    | true =>
      go_wp2
      go_ret
      exact ⟨ret_bool (by rw [HM.out, hn, hf, ← HB.out]; rfl), B0.out⟩
    | false =>
      go_wp2
      go_ret
      exact ⟨ret_bool (by rw [HM.out, hn, hf]; rfl), B0.out⟩
  | false =>
    go_wp2
    go_ret
    exact ⟨ret_bool (by rw [HM.out, hn]; rfl), B0.out⟩
theorem opRes_form (n : Int) : ∃ r0 r1 r3 u, opRes n = .tuple #[.agg #[.int .i64 r0, .int .i64 r1, .string u, .int .i64 r3], .bool (opFind n).isSome] := by
  unfold opRes
  cases opFind n with
  | none => exact ⟨_, _, _, _, rfl⟩
  | some r => exact ⟨_, _, _, _, rfl⟩
theorem cvRes_form (n : Int) : ∃ u r1, cvRes n = .tuple #[.agg #[.string u, .int .i64 r1], .bool (cvFind n).isSome] := by
  unfold cvRes
  cases cvFind n with
  | none => exact ⟨_, _, rfl⟩
  | some r => exact ⟨_, _, rfl⟩
set_option maxRecDepth 100000 in
set_option maxHeartbeats 3200000 in
theorem may_op (n t : Int) (s f : Bs) (w : World) (hg : Glo w) : Calls Tryz.prog 76 #[.agg #[.int .i64 5, .int .i64 n, .int .i64 t, .string ⟨s.toArray⟩, .string ⟨f.toArray⟩]] w fun e w' => e = .returned (.bool (mayP ⟨5, s, f, n, t⟩)) ∧ Below w.heap.size w w' := by
  have HM : Hid (mayP ⟨5, s, f, n, t⟩ = ((opFind n).isSome && decide (t = 0 ∧ s = [] ∧ f = []))) := by
    show (decide (s = []) && (decide (f = []) && (decide (t = 0) && (decide (1 ≤ n) && decide (n ≤ 16))))) = _
    rw [op_some, Bool.eq_iff_iff]; simp; constructor <;> (rintro ⟨a, b, c, d⟩; refine ⟨?_, ?_, ?_, ?_⟩ <;> first | assumption | omega)
  have b0 := (Below.refl w.heap.size w).alloc (Nat.le_refl _) (.cells #[.int .i64 5, .int .i64 n, .int .i64 t, .string ⟨s.toArray⟩, .string ⟨f.toArray⟩] 38)
  have B0 := hide b0
  have g0 := hg.below b0 hg.lt
  have c := opOf_any n _ g0.ops (by have := g0.lt; omega)
  obtain ⟨r0, r1, r3, u, hr⟩ := opRes_form n
  rw [hr] at c
  obtain ⟨b, hrun, hb⟩ := eq44 5 n t 5 n 0 ⟨s.toArray⟩ ⟨f.toArray⟩ ⟨#[]⟩ ⟨#[]⟩
  have HB : Hid (b = decide (t = 0 ∧ s = [] ∧ f = [])) := by
    show _ = _
    rw [hb, decide_eq_decide, text_nil, text_nil]; simp
  have m0 : (w.alloc (.cells #[.int .i64 5, .int .i64 n, .int .i64 t, .string ⟨s.toArray⟩, .string ⟨f.toArray⟩] 38)).heap[w.heap.size]? = some (.cells #[.int .i64 5, .int .i64 n, .int .i64 t, .string ⟨s.toArray⟩, .string ⟨f.toArray⟩] 38) := heap_alloc_new w _
  generalize (⟨s.toArray⟩ : ByteArray) = S at *
  generalize (⟨f.toArray⟩ : ByteArray) = F at *
  clear hb hg g0 b0 hr
  go_enter Tryz.func76, Tryz.ntmps76
  go_wp2_with fail
  refine c.mono ?_
  rintro e w1 ⟨rfl, hb1⟩
  have B1 := hide (B0.out.trans (hb1.mono B0.out.size))
  have z1 : w.heap.size < (w.alloc (.cells #[.int .i64 5, .int .i64 n, .int .i64 t, .string S, .string F] 38)).heap.size := by rw [World.size_alloc]; omega
  have m1 : w1.heap[w.heap.size]? = some (.cells #[.int .i64 5, .int .i64 n, .int .i64 t, .string S, .string F] 38) := by rw [hb1.block w.heap.size z1]; exact m0
  have z2 : w.heap.size < w1.heap.size := (Array.getElem?_eq_some_iff.1 m1).1
  have d0 : ∀ o, (w1.alloc o).cell? ⟨w.heap.size, 0, none⟩ = some (.int .i64 5) := fun o => (World.cell?_alloc_lt _ _ _ z2).trans (by rw [Lib.cell_of_heap m1]; rfl)
  have d1 : ∀ o, (w1.alloc o).cell? ⟨w.heap.size, 1, none⟩ = some (.int .i64 n) := fun o => (World.cell?_alloc_lt _ _ _ z2).trans (by rw [Lib.cell_of_heap m1]; rfl)
  have d2 : ∀ o, (w1.alloc o).cell? ⟨w.heap.size, 2, none⟩ = some (.int .i64 t) := fun o => (World.cell?_alloc_lt _ _ _ z2).trans (by rw [Lib.cell_of_heap m1]; rfl)
  have d3 : ∀ o, (w1.alloc o).cell? ⟨w.heap.size, 3, none⟩ = some (.string S) := fun o => (World.cell?_alloc_lt _ _ _ z2).trans (by rw [Lib.cell_of_heap m1]; rfl)
  have d4 : ∀ o, (w1.alloc o).cell? ⟨w.heap.size, 4, none⟩ = some (.string F) := fun o => (World.cell?_alloc_lt _ _ _ z2).trans (by rw [Lib.cell_of_heap m1]; rfl)
  clear c hb1 m0 m1 z1
  cases hn : (opFind n).isSome with
  | true =>
    go_wp2
    go_ret
    exact ⟨ret_bool (by rw [HM.out, hn, ← HB.out]; rfl), B1.out.alloc B1.out.size _⟩
  | false =>
    go_wp2
    go_ret
    exact ⟨ret_bool (by rw [HM.out, hn]; rfl), B1.out.alloc B1.out.size _⟩
set_option maxRecDepth 100000 in
set_option maxHeartbeats 3200000 in
theorem may_to (n t : Int) (s f : Bs) (w : World) (hg : Glo w) : Calls Tryz.prog 76 #[.agg #[.int .i64 6, .int .i64 n, .int .i64 t, .string ⟨s.toArray⟩, .string ⟨f.toArray⟩]] w fun e w' => e = .returned (.bool (mayP ⟨6, s, f, n, t⟩)) ∧ Below w.heap.size w w' := by
  have HM : Hid (mayP ⟨6, s, f, n, t⟩ = ((cvFind t).isSome && decide (n = 0 ∧ s = [] ∧ f = []))) := by
    show (decide (s = []) && (decide (f = []) && (decide (n = 0) && (decide (2 ≤ t) && decide (t ≤ 4))))) = _
    rw [cv_some, Bool.eq_iff_iff]; simp; constructor <;> (rintro ⟨a, b, c, d⟩; refine ⟨?_, ?_, ?_, ?_⟩ <;> first | assumption | omega)
  have b0 := (Below.refl w.heap.size w).alloc (Nat.le_refl _) (.cells #[.int .i64 6, .int .i64 n, .int .i64 t, .string ⟨s.toArray⟩, .string ⟨f.toArray⟩] 38)
  have B0 := hide b0
  have g0 := hg.below b0 hg.lt
  have c := cvTo_any t _ g0.conv (by have := g0.lt; omega)
  obtain ⟨u, r1, hr⟩ := cvRes_form t
  rw [hr] at c
  obtain ⟨b, hrun, hb⟩ := eq44 6 n t 6 0 t ⟨s.toArray⟩ ⟨f.toArray⟩ ⟨#[]⟩ ⟨#[]⟩
  have HB : Hid (b = decide (n = 0 ∧ s = [] ∧ f = [])) := by
    show _ = _
    rw [hb, decide_eq_decide, text_nil, text_nil]; simp
  have m0 : (w.alloc (.cells #[.int .i64 6, .int .i64 n, .int .i64 t, .string ⟨s.toArray⟩, .string ⟨f.toArray⟩] 38)).heap[w.heap.size]? = some (.cells #[.int .i64 6, .int .i64 n, .int .i64 t, .string ⟨s.toArray⟩, .string ⟨f.toArray⟩] 38) := heap_alloc_new w _
  generalize (⟨s.toArray⟩ : ByteArray) = S at *
  generalize (⟨f.toArray⟩ : ByteArray) = F at *
  clear hb hg g0 b0 hr
  go_enter Tryz.func76, Tryz.ntmps76
  go_wp2_with fail
  refine c.mono ?_
  rintro e w1 ⟨rfl, hb1⟩
  have B1 := hide (B0.out.trans (hb1.mono B0.out.size))
  have z1 : w.heap.size < (w.alloc (.cells #[.int .i64 6, .int .i64 n, .int .i64 t, .string S, .string F] 38)).heap.size := by rw [World.size_alloc]; omega
  have m1 : w1.heap[w.heap.size]? = some (.cells #[.int .i64 6, .int .i64 n, .int .i64 t, .string S, .string F] 38) := by rw [hb1.block w.heap.size z1]; exact m0
  have z2 : w.heap.size < w1.heap.size := (Array.getElem?_eq_some_iff.1 m1).1
  have d0 : ∀ o, (w1.alloc o).cell? ⟨w.heap.size, 0, none⟩ = some (.int .i64 6) := fun o => (World.cell?_alloc_lt _ _ _ z2).trans (by rw [Lib.cell_of_heap m1]; rfl)
  have d1 : ∀ o, (w1.alloc o).cell? ⟨w.heap.size, 1, none⟩ = some (.int .i64 n) := fun o => (World.cell?_alloc_lt _ _ _ z2).trans (by rw [Lib.cell_of_heap m1]; rfl)
  have d2 : ∀ o, (w1.alloc o).cell? ⟨w.heap.size, 2, none⟩ = some (.int .i64 t) := fun o => (World.cell?_alloc_lt _ _ _ z2).trans (by rw [Lib.cell_of_heap m1]; rfl)
  have d3 : ∀ o, (w1.alloc o).cell? ⟨w.heap.size, 3, none⟩ = some (.string S) := fun o => (World.cell?_alloc_lt _ _ _ z2).trans (by rw [Lib.cell_of_heap m1]; rfl)
  have d4 : ∀ o, (w1.alloc o).cell? ⟨w.heap.size, 4, none⟩ = some (.string F) := fun o => (World.cell?_alloc_lt _ _ _ z2).trans (by rw [Lib.cell_of_heap m1]; rfl)
  clear c hb1 m0 m1 z1
  cases hn : (cvFind t).isSome with
  | true =>
    go_wp2
    go_ret
    exact ⟨ret_bool (by rw [HM.out, hn, ← HB.out]; rfl), B1.out.alloc B1.out.size _⟩
  | false =>
    go_wp2
    go_ret
    exact ⟨ret_bool (by rw [HM.out, hn]; rfl), B1.out.alloc B1.out.size _⟩
set_option maxRecDepth 100000 in
set_option maxHeartbeats 3200000 in
theorem may_none (k n t : Int) (hk : k < 1 ∨ 6 < k) (S F : ByteArray) (w : World) : Calls Tryz.prog 76 #[.agg #[.int .i64 k, .int .i64 n, .int .i64 t, .string S, .string F]] w fun e w' => e = .returned (.bool false) ∧ Below w.heap.size w w' := by
  have B0 := hide ((Below.refl w.heap.size w).alloc (Nat.le_refl _) (.cells #[.int .i64 k, .int .i64 n, .int .i64 t, .string S, .string F] 38))
  have q1 : (k == 1) = false := by rw [beq_eq_false_iff_ne]; omega
  have q2 : (k == 2) = false := by rw [beq_eq_false_iff_ne]; omega
  have q3 : (k == 3) = false := by rw [beq_eq_false_iff_ne]; omega
  have q4 : (k == 4) = false := by rw [beq_eq_false_iff_ne]; omega
  have q5 : (k == 5) = false := by rw [beq_eq_false_iff_ne]; omega
  have q6 : (k == 6) = false := by rw [beq_eq_false_iff_ne]; omega
  clear hk
  go_enter Tryz.func76, Tryz.ntmps76
  go_wp2
  go_ret
  exact ⟨rfl, B0.out⟩
theorem mayBe_any (k n t : Int) (s f : Bs) (w : World) (hg : Glo w) : Calls Tryz.prog 76 #[.agg #[.int .i64 k, .int .i64 n, .int .i64 t, .string ⟨s.toArray⟩, .string ⟨f.toArray⟩]] w fun e w' => e = .returned (.bool (mayP ⟨k, s, f, n, t⟩)) ∧ Below w.heap.size w w' := by
  by_cases h1 : k = 1
  · subst h1; exact may_num n t s f w hg
  by_cases h2 : k = 2 ∨ k = 3
  · exact may_name k n t h2 s f w hg
  by_cases h4 : k = 4
  · subst h4; exact may_field n t s f w hg
  by_cases h5 : k = 5
  · subst h5; exact may_op n t s f w hg
  by_cases h6 : k = 6
  · subst h6; exact may_to n t s f w hg
  have e : mayP ⟨k, s, f, n, t⟩ = false := by
    unfold mayP
    simp only []
    rw [if_neg h1, if_neg h2, if_neg h4, if_neg h5, if_neg h6]
  rw [e]
  exact may_none k n t (by omega) _ _ w
end Go.Proofs.YtldjiieckddhkaaGreatDoor
namespace Go.Proofs.YtldjiieckddhkaaGreatDoor
open Go.RowKit
structure Pv where
  k : Int
  n : Int
  t : Int
  s : ByteArray
  f : ByteArray
def pvC (x : Pv) : List Value := [.int .i64 x.k, .int .i64 x.n, .int .i64 x.t, .string x.s, .string x.f]
def pvsC : List Pv → List Value
  | [] => []
  | x :: l => pvC x ++ pvsC l
theorem pvsC_append (a b : List Pv) : pvsC (a ++ b) = pvsC a ++ pvsC b := by
  induction a with
  | nil => rfl
  | cons x a ih => rw [List.cons_append, pvsC, pvsC, ih, List.append_assoc]
theorem pvsC_length (l : List Pv) : (pvsC l).length = l.length * 5 := by
  induction l with
  | nil => rfl
  | cons x l ih => rw [pvsC, List.length_append, ih, List.length_cons]; show 5 + _ = _; omega
theorem pvsC_get (l : List Pv) : ∀ (i j : Nat) (h : i < l.length), j < 5 → (pvsC l)[i * 5 + j]? = (pvC l[i])[j]? := by
  induction l with
  | nil => intro i j h; exact absurd h (Nat.not_lt_zero _)
  | cons x l ih =>
    intro i j h hj
    match i with
    | 0 => rw [pvsC, List.getElem?_append_left (by show 0 * 5 + j < 5; omega), Nat.zero_mul, Nat.zero_add]; rfl
    | i + 1 =>
      rw [pvsC, List.getElem?_append_right (by show 5 ≤ _; omega)]
      show (pvsC l)[(i + 1) * 5 + j - 5]? = (pvC (l[i]'(by simpa using h)))[j]?
      rw [show (i + 1) * 5 + j - 5 = i * 5 + j from by omega]
      exact ih i j (by simpa using h) hj
theorem pvsC_one (l : List Pv) : ∀ u ∈ pvsC l, u.oneCell' = true := by
  induction l with
  | nil => intro u hu; cases hu
  | cons x l ih =>
    intro u hu
    rcases List.mem_append.1 hu with h | h
    · simp only [pvC, List.mem_cons, List.not_mem_nil, or_false] at h
      rcases h with rfl | rfl | rfl | rfl | rfl <;> rfl
    · exact ih u h
def PvAt (w : World) (b off : Nat) (l : List Pv) : Prop :=
  ∀ i x, l[i]? = some x → w.cell? ⟨b, off + i * 5, none⟩ = some (.int .i64 x.k) ∧ w.cell? ⟨b, off + i * 5 + 1, none⟩ = some (.int .i64 x.n) ∧ w.cell? ⟨b, off + i * 5 + 2, none⟩ = some (.int .i64 x.t) ∧ w.cell? ⟨b, off + i * 5 + 3, none⟩ = some (.string x.s) ∧ w.cell? ⟨b, off + i * 5 + 4, none⟩ = some (.string x.f)
def PLst (w : World) (v : Value) (l : List Pv) : Prop :=
  ∃ (a : Option Addr) (b off cap : Nat), v = .slice a l.length cap ∧ (0 < l.length → b < w.heap.size ∧ a = some ⟨b, off, none⟩) ∧ PvAt w b off l
theorem PLst.below {w w' : World} {v : Value} {l : List Pv} {B : Nat} (h : PLst w v l) (hb : Below B w w') (hB : w.heap.size ≤ B) : PLst w' v l := by
  obtain ⟨a, b, off, cap, rfl, hb0, hI⟩ := h
  refine ⟨a, b, off, cap, rfl, fun h => ⟨by have := hb.size; have := (hb0 h).1; omega, (hb0 h).2⟩, fun i x hx => ?_⟩
  have hlt : b < B := by have := (hb0 (by have := (List.getElem?_eq_some_iff.1 hx).1; omega)).1; omega
  obtain ⟨h1, h2, h3, h4, h5⟩ := hI i x hx
  exact ⟨(hb.cell (p := ⟨b, _, none⟩) hlt).trans h1, (hb.cell (p := ⟨b, _, none⟩) hlt).trans h2, (hb.cell (p := ⟨b, _, none⟩) hlt).trans h3, (hb.cell (p := ⟨b, _, none⟩) hlt).trans h4, (hb.cell (p := ⟨b, _, none⟩) hlt).trans h5⟩
theorem PLst.of_owns {w : World} {base : Nat} {v : Value} {l : List Pv} (h : w.ownsRow base 38 5 v l.length (pvsC l)) : PLst w v l := by
  rcases h.2 with ⟨rfl, h0⟩ | ⟨g, cap, cur, rfl, hb, hg, hn, hm, hc, ht⟩
  · have hl : l = [] := List.eq_nil_of_length_eq_zero h0
    subst hl
    exact ⟨none, 0, 0, 0, rfl, fun h => absurd h (Nat.lt_irrefl 0), fun i x hx => by cases hx⟩
  · refine ⟨some ⟨g, 0, none⟩, g, 0, cap, rfl, fun _ => ⟨(Array.getElem?_eq_some_iff.1 hg).1, rfl⟩, fun i x hx => ?_⟩
    obtain ⟨hi, he⟩ := List.getElem?_eq_some_iff.1 hx
    have key : ∀ j, j < 5 → w.cell? ⟨g, i * 5 + j, none⟩ = (pvC x)[j]? := fun j hj => by
      rw [h.cellAt (i * 5 + j) (by omega), pvsC_get l i j hi hj, he]
    rw [Nat.zero_add]
    exact ⟨key 0 (by omega), key 1 (by omega), key 2 (by omega), key 3 (by omega), key 4 (by omega)⟩
theorem pv_cells {w : World} {b off : Nat} {l : List Pv} (h : PvAt w b off l) : ∀ j u, (pvsC l)[j]? = some u → w.cell? ((⟨b, off, none⟩ : Addr).add j) = some u := fun j u hu => by
  have hj : j < l.length * 5 := by rw [← pvsC_length]; exact (List.getElem?_eq_some_iff.1 hu).1
  have hi : j / 5 < l.length := by omega
  have e : (pvsC l)[j / 5 * 5 + j % 5]? = (pvC l[j / 5])[j % 5]? := pvsC_get l (j / 5) (j % 5) hi (by omega)
  rw [show j / 5 * 5 + j % 5 = j from by omega, hu] at e
  obtain ⟨h0, h1, h2, h3, h4⟩ := h (j / 5) _ (List.getElem?_eq_getElem hi)
  rw [Addr.add_mid]
  have hr : j % 5 = 0 ∨ j % 5 = 1 ∨ j % 5 = 2 ∨ j % 5 = 3 ∨ j % 5 = 4 := by omega
  rcases hr with r | r | r | r | r
  · rw [r] at e; rw [show off + j = off + j / 5 * 5 from by omega, h0]; exact e.symm
  · rw [r] at e; rw [show off + j = off + j / 5 * 5 + 1 from by omega, h1]; exact e.symm
  · rw [r] at e; rw [show off + j = off + j / 5 * 5 + 2 from by omega, h2]; exact e.symm
  · rw [r] at e; rw [show off + j = off + j / 5 * 5 + 3 from by omega, h3]; exact e.symm
  · rw [r] at e; rw [show off + j = off + j / 5 * 5 + 4 from by omega, h4]; exact e.symm
def ptV (x : Pv) : Pt := ⟨x.k, x.s.data.toList, x.f.data.toList, x.n, x.t⟩
theorem text_back (s : ByteArray) : (⟨s.data.toList.toArray⟩ : ByteArray) = s := by cases s; simp
theorem mayBe_v (x : Pv) (w : World) (hg : Glo w) : Calls Tryz.prog 76 #[.agg #[.int .i64 x.k, .int .i64 x.n, .int .i64 x.t, .string x.s, .string x.f]] w fun e w' => e = .returned (.bool (mayP (ptV x))) ∧ Below w.heap.size w w' := by
  have h := mayBe_any x.k x.n x.t x.s.data.toList x.f.data.toList w hg
  rw [text_back, text_back] at h
  exact h
theorem operands_v (x : Pv) (w : World) : Calls Tryz.prog 109 #[.agg #[.int .i64 x.k, .int .i64 x.n, .int .i64 x.t, .string x.s, .string x.f]] w fun e w' => e = .returned (.int .i64 ((takes (ptV x) : Nat) : Int)) ∧ Below w.heap.size w w' := operands_any x.k x.n x.t x.s x.f w
end Go.Proofs.YtldjiieckddhkaaGreatDoor
namespace Go.Proofs.YtldjiieckddhkaaGreatDoor
def deep (l : List Nat) : Nat := l.foldl (fun m d => max m (d + 1)) 1
def stepD (p : Pt) (ds : List Nat) : Option (List Nat) :=
  if ds.length < takes p then none else some (ds.take (ds.length - takes p) ++ [deep (ds.drop (ds.length - takes p))])
theorem takes_cases (p : Pt) : takes p = 0 ∨ takes p = 1 ∨ takes p = 2 := by have := takes_le p; omega
theorem depths_step (p : Pt) (x : List Pt) (ds : List Nat) : depths (p :: x) ds.reverse = match stepD p ds with
    | none => none
    | some ds' => depths x ds'.reverse := by
  conv => lhs; unfold depths
  unfold stepD
  rcases takes_cases p with h | h | h
  · rw [h, if_pos rfl, if_neg (by omega)]
    simp only [Nat.sub_zero, List.take_length, List.drop_length, List.reverse_append, List.reverse_cons, List.reverse_nil, List.nil_append, List.singleton_append]
    rfl
  · rw [h, if_neg (by decide), if_pos rfl]
    rcases List.eq_nil_or_concat ds with rfl | ⟨l, a, rfl⟩
    · rfl
    · rw [List.concat_eq_append, List.reverse_append, if_neg (by simp)]
      simp only [List.length_append, List.length_cons, List.length_nil, Nat.zero_add, Nat.add_sub_cancel, List.take_left', List.drop_left', List.reverse_append, List.reverse_cons, List.reverse_nil, List.nil_append, List.cons_append]
      show depths x ((a + 1) :: l.reverse) = depths x (deep [a] :: l.reverse)
      have : deep [a] = a + 1 := by show max 1 (a + 1) = a + 1; omega
      rw [this]
  · rw [h, if_neg (by decide), if_neg (by decide)]
    rcases List.eq_nil_or_concat ds with rfl | ⟨l, a, rfl⟩
    · rfl
    · rcases List.eq_nil_or_concat l with rfl | ⟨l, b, rfl⟩
      · rfl
      · rw [List.concat_eq_append, List.concat_eq_append, if_neg (by simp)]
        have e1 : (l ++ [b] ++ [a]).length - 2 = l.length := by simp
        rw [e1, List.append_assoc, List.take_left' rfl, List.drop_left' rfl]
        simp only [List.reverse_append, List.reverse_cons, List.reverse_nil, List.nil_append, List.cons_append]
        show depths x ((max a b + 1) :: l.reverse) = depths x (deep [b, a] :: l.reverse)
        have : deep [b, a] = max a b + 1 := by show max (max 1 (b + 1)) (a + 1) = _; omega
        rw [this]
theorem depths_app : ∀ (a b : List Pt) (st : List Nat), depths (a ++ b) st = match depths a st with
    | none => none
    | some st' => depths b st'
  | [], b, st => rfl
  | p :: a, b, st => by
    obtain ⟨ds, rfl⟩ : ∃ ds : List Nat, st = ds.reverse := ⟨st.reverse, (List.reverse_reverse st).symm⟩
    rw [List.cons_append, depths_step, depths_step]
    cases stepD p ds with
    | none => rfl
    | some ds' => exact depths_app a b _
theorem deep_ge (l : List Nat) : ∀ m, (∀ d ∈ l, d + 1 ≤ l.foldl (fun m d => max m (d + 1)) m) ∧ m ≤ l.foldl (fun m d => max m (d + 1)) m := by
  induction l with
  | nil => intro m; exact ⟨fun d hd => (by cases hd), Nat.le_refl _⟩
  | cons a l ih =>
    intro m
    obtain ⟨h1, h2⟩ := ih (max m (a + 1))
    refine ⟨fun d hd => ?_, ?_⟩
    · rcases List.mem_cons.1 hd with rfl | hd
      · exact Nat.le_trans (Nat.le_max_right _ _) h2
      · exact h1 d hd
    · exact Nat.le_trans (Nat.le_max_left _ _) h2
theorem check_bad {x : List Pt} (hl : ¬ 500 < x.length) (h : x.all mayP = false ∨ depth x = 0 ∨ 24 < depth x) : checkP x = 60 := by
  unfold checkP
  rw [if_neg hl]
  by_cases ha : x.all mayP = false
  · rw [if_pos ha]
  · rw [if_neg ha]
    rcases h with h | h
    · exact absurd h ha
    · rw [if_pos h]
theorem check_may {x : List Pt} (hl : ¬ 500 < x.length) {i : Nat} {p : Pt} (hi : x[i]? = some p) (hp : mayP p = false) : checkP x = 60 :=
  check_bad hl (.inl (by rw [List.all_eq_false]; exact ⟨p, List.mem_of_getElem? hi, by rw [hp]; decide⟩))
theorem split_at {x : List Pt} {i : Nat} {p : Pt} (hi : x[i]? = some p) : x = x.take i ++ p :: x.drop (i + 1) := by
  obtain ⟨h, e⟩ := List.getElem?_eq_some_iff.1 hi
  rw [← e, ← List.drop_eq_getElem_cons h, List.take_append_drop]
theorem check_good {x : List Pt} (hl : ¬ 500 < x.length) {ds : List Nat} (hm : ∀ (i : Nat) p, x[i]? = some p → mayP p = true) (hd : depths x [] = some ds.reverse) (h1 : ds.length = 1) (hs : ∀ d ∈ ds, 1 ≤ d ∧ d ≤ 24) : checkP x = 0 := by
  unfold checkP
  rw [if_neg hl, if_neg, if_neg]
  · unfold depth
    rw [hd]
    match ds, h1 with
    | [a], _ =>
      have := hs a List.mem_cons_self
      show ¬ (a = 0 ∨ 24 < a)
      omega
  · intro h
    rw [List.all_eq_false] at h
    obtain ⟨p, hp, hn⟩ := h
    obtain ⟨i, hi⟩ := List.mem_iff_getElem?.1 hp
    exact hn (hm i p hi)
end Go.Proofs.YtldjiieckddhkaaGreatDoor
