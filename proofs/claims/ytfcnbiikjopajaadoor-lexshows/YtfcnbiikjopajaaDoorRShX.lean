/- The contract of the document's show (one token): words, signs and what is none. -/
import Derived.Test.YtfcnbiikjopajaaDoorROneW
import Derived.Test.YtfcnbiikjopajaaDoorMgG
namespace Go.Proofs.YtfcnbiikjopajaaDoor
open Go.RowKit
/-- what the document's show answers -/
def ShOut (t : Tk) (v : Value) : Prop := ∃ (S : ByteArray) (b : Bool), v = .tuple #[.string S, .bool b] ∧ (b = true → showT t = some S.data.toList) ∧ (b = false → showT t = none)
theorem showT_txt (k : Int) (s : Bs) (n ty : Int) (hk : ¬ (k = 2 ∧ s = [])) : showT ⟨k, s, n, ty⟩ = (if (k = 1 ∨ k = 3) ∧ n = 0 ∧ ty = 0 ∧ s ≠ [] ∧ s.length ≤ 24 then
    match oneTok s with
    | some (x, []) => if x.kind = k ∧ x.s = s then some s else none
    | _ => none
  else none) := by
  unfold showT
  simp only []
  rw [if_neg hk]
  rfl
theorem nil_text (s : Bs) : (⟨s.toArray⟩ : ByteArray).toList.isEmpty = decide (s = []) := by
  rw [ByteArray.toList_eq]
  cases s <;> rfl
set_option maxRecDepth 100000 in
set_option maxHeartbeats 3200000 in
theorem rshow_bad (k : Int) (s : Bs) (n ty at_ : Int) (hk : ¬ (k = 2 ∧ s = [])) (hb : ¬ ((k = 1 ∨ k = 3) ∧ n = 0 ∧ ty = 0 ∧ s ≠ [] ∧ s.length ≤ 24)) (w : World) : Calls Tryd.prog 33 #[.agg #[.int .i64 k, .string ⟨s.toArray⟩, .int .i64 n, .int .i64 ty, .int .i64 at_]] w fun e w' => (∃ v, e = .returned v ∧ ShOut ⟨k, s, n, ty⟩ v) ∧ Below w.heap.size w w' := by
  have HE : Hid (showT ⟨k, s, n, ty⟩ = none) := by
    show _ = _
    rw [showT_txt k s n ty hk, if_neg hb]
  have B0 := hide ((Below.refl w.heap.size w).alloc (Nat.le_refl _) (.cells #[.int .i64 k, .string ⟨s.toArray⟩, .int .i64 n, .int .i64 ty, .int .i64 at_] 41))
  have hsz := list_size s
  have e1 := nil_text s
  obtain ⟨S, hS⟩ : ∃ S : ByteArray, S = ⟨s.toArray⟩ := ⟨_, rfl⟩
  rw [← hS] at hsz e1 B0 ⊢
  clear hS
  by_cases h1 : k = 1 ∨ k = 3
  · have h2 : ¬ k = 2 := by omega
    by_cases hn : n = 0
    · by_cases ht : ty = 0
      · by_cases h0 : s = []
        · have e2 : S.toList.isEmpty = true := by rw [e1]; exact decide_eq_true h0
          clear e1 hsz hb hk h0
          subst hn ht
          rcases h1 with rfl | rfl
          · go_enter Tryd.func33, Tryd.ntmps33
            go_wp2
            go_ret2
            exact ⟨⟨_, rfl, _, false, rfl, fun h => (by cases h), fun _ => HE.out⟩, B0.out⟩
          · go_enter Tryd.func33, Tryd.ntmps33
            go_wp2
            go_ret2
            exact ⟨⟨_, rfl, _, false, rfl, fun h => (by cases h), fun _ => HE.out⟩, B0.out⟩
        · have e2 : S.toList.isEmpty = false := by rw [e1]; exact decide_eq_false h0
          have h4 : (24 : Int) < (S.size : Int) := by
            have : ¬ s.length ≤ 24 := fun h => hb ⟨h1, hn, ht, h0, h⟩
            omega
          clear e1 hsz hb hk h0
          subst hn ht
          rcases h1 with rfl | rfl
          · go_enter Tryd.func33, Tryd.ntmps33
            go_wp2
            go_ret2
            exact ⟨⟨_, rfl, _, false, rfl, fun h => (by cases h), fun _ => HE.out⟩, B0.out⟩
          · go_enter Tryd.func33, Tryd.ntmps33
            go_wp2
            go_ret2
            exact ⟨⟨_, rfl, _, false, rfl, fun h => (by cases h), fun _ => HE.out⟩, B0.out⟩
      · clear e1 hsz hb hk
        subst hn
        rcases h1 with rfl | rfl
        · go_enter Tryd.func33, Tryd.ntmps33
          go_wp2
          go_ret2
          exact ⟨⟨_, rfl, _, false, rfl, fun h => (by cases h), fun _ => HE.out⟩, B0.out⟩
        · go_enter Tryd.func33, Tryd.ntmps33
          go_wp2
          go_ret2
          exact ⟨⟨_, rfl, _, false, rfl, fun h => (by cases h), fun _ => HE.out⟩, B0.out⟩
    · clear e1 hsz hb hk
      rcases h1 with rfl | rfl
      · go_enter Tryd.func33, Tryd.ntmps33
        go_wp2
        go_ret2
        exact ⟨⟨_, rfl, _, false, rfl, fun h => (by cases h), fun _ => HE.out⟩, B0.out⟩
      · go_enter Tryd.func33, Tryd.ntmps33
        go_wp2
        go_ret2
        exact ⟨⟨_, rfl, _, false, rfl, fun h => (by cases h), fun _ => HE.out⟩, B0.out⟩
  · have k1 : ¬ k = 1 := fun h => h1 (.inl h)
    have k3 : ¬ k = 3 := fun h => h1 (.inr h)
    by_cases h2 : k = 2
    · have e2 : S.toList.isEmpty = false := by rw [e1]; exact decide_eq_false (fun h => hk ⟨h2, h⟩)
      clear e1 hsz hb hk h1
      subst h2
      go_enter Tryd.func33, Tryd.ntmps33
      go_wp2
      go_ret2
      exact ⟨⟨_, rfl, _, false, rfl, fun h => (by cases h), fun _ => HE.out⟩, B0.out⟩
    · clear e1 hsz hb hk h1
      go_enter Tryd.func33, Tryd.ntmps33
      go_wp2
      go_ret2
      exact ⟨⟨_, rfl, _, false, rfl, fun h => (by cases h), fun _ => HE.out⟩, B0.out⟩
set_option maxRecDepth 100000 in
set_option maxHeartbeats 3200000 in
theorem rshow_txt (k : Int) (s : Bs) (at_ : Int) (hk : k = 1 ∨ k = 3) (h0 : s ≠ []) (hl : s.length ≤ 24) (w : World) : Calls Tryd.prog 33 #[.agg #[.int .i64 k, .string ⟨s.toArray⟩, .int .i64 0, .int .i64 0, .int .i64 at_]] w fun e w' => (∃ v, e = .returned v ∧ ShOut ⟨k, s, 0, 0⟩ v) ∧ Below w.heap.size w w' := by
  have HE := hide (showT_txt k s 0 0 (fun h => h0 h.2))
  rw [if_pos ⟨hk, rfl, rfl, h0, hl⟩] at HE
  have b0 := (Below.refl w.heap.size w).alloc (Nat.le_refl _) (.cells #[.int .i64 k, .string ⟨s.toArray⟩, .int .i64 0, .int .i64 0, .int .i64 at_] 41)
  have hp : 0 < s.length := List.length_pos_iff.2 h0
  have c := fun W => rone_any s 0 (by omega) hp W
  rw [List.drop_zero] at c
  have hsz := list_size s
  have e2 : (⟨s.toArray⟩ : ByteArray).toList.isEmpty = false := by rw [nil_text]; exact decide_eq_false h0
  have m0 : (w.alloc (.cells #[.int .i64 k, .string ⟨s.toArray⟩, .int .i64 0, .int .i64 0, .int .i64 at_] 41)).cell? ⟨w.heap.size, 0, none⟩ = some (.int .i64 k) := by simp
  have m1 : (w.alloc (.cells #[.int .i64 k, .string ⟨s.toArray⟩, .int .i64 0, .int .i64 0, .int .i64 at_] 41)).cell? ⟨w.heap.size, 1, none⟩ = some (.string ⟨s.toArray⟩) := by simp
  have hz : w.heap.size < (w.alloc (.cells #[.int .i64 k, .string ⟨s.toArray⟩, .int .i64 0, .int .i64 0, .int .i64 at_] 41)).heap.size := by rw [World.size_alloc]; omega
  obtain ⟨S, hS⟩ : ∃ S : ByteArray, S = ⟨s.toArray⟩ := ⟨_, rfl⟩
  have HSS : Hid (S.data.toList = s) := by show _ = _; rw [hS]
  have bt := fun y : ByteArray => beq_text y S
  rw [← hS] at hsz e2 b0 m0 m1 hz c ⊢
  have HS := hide hS
  have k2 : ¬ k = 2 := by omega
  have l4 : ¬ (24 : Int) < (S.size : Int) := by omega
  have HZ := hide hsz
  have B0 := hide b0
  have HP := hide hp
  clear hS hsz b0 hl h0 hp
  have hkk : ∃ q, q = k := ⟨_, rfl⟩
  have hd1 : (k != 1 && k != 3) = false := by rcases hk with rfl | rfl <;> rfl
  go_enter Tryd.func33, Tryd.ntmps33
  rcases hk with rfl | rfl
  · go_wp2_with fail
    refine (c _).mono ?_
    rintro e w1 ⟨⟨v, rfl, hv⟩, hb1⟩
    have B1 := hide (B0.out.trans (hb1.mono B0.out.size))
    have z1 : w.heap.size < w1.heap.size := Nat.lt_of_lt_of_le hz hb1.size
    have p0 := (hb1.cell (p := ⟨w.heap.size, 0, none⟩) hz).trans m0
    have p1 := (hb1.cell (p := ⟨w.heap.size, 1, none⟩) hz).trans m1
    have a0 := fun o => (World.cell?_alloc_lt w1 o ⟨w.heap.size, 0, none⟩ z1).trans p0
    have a1 := fun o => (World.cell?_alloc_lt w1 o ⟨w.heap.size, 1, none⟩ z1).trans p1
    clear hb1 c m0 m1 hz
    cases ht : oneTok s with
    | none =>
      rw [ht] at hv HE
      obtain ⟨t, q, rfl⟩ := hv
      unfold tkA
      clear ht
      go_wp2
      go_quiet (fail)
      go_wp2
      go_ret2
      exact ⟨⟨_, rfl, _, false, rfl, fun h => (by cases h), fun _ => HE.out⟩, below_drawn (B1.out.alloc B1.out.size _) _⟩
    | some x =>
      obtain ⟨t, r⟩ := x
      rw [ht] at hv HE
      obtain rfl : v = _ := hv
      obtain ⟨Z, hZ⟩ : ∃ Z : Int, Z = ((s.length - r.length : Nat) : Int) := ⟨_, rfl⟩
      rw [← hZ]
      unfold tkA
      have B2 := fun o => hide (B1.out.alloc B1.out.size o)
      by_cases hr : r = []
      · subst hr
        have hz2 : (Z == (S.size : Int)) = true := by rw [beq_iff_eq, hZ, HZ.out]; simp
        obtain ⟨T, hT⟩ : ∃ T : ByteArray, T = ⟨t.s.toArray⟩ := ⟨_, rfl⟩
        have HT := hide hT
        rw [← hT]
        have bq := bt T
        clear hZ hT ht bt
        by_cases hk1 : t.kind = 1
        · by_cases hs1 : T = S
          · have HF : Hid (showT ⟨1, s, 0, 0⟩ = some S.data.toList) := by
              show _ = _
              rw [HE.out, HSS.out]
              simp only []
              rw [if_pos ⟨hk1, by
                have e : (⟨t.s.toArray⟩ : ByteArray) = ⟨s.toArray⟩ := by rw [← HT.out, ← HS.out]; exact hs1
                simpa using congrArg (fun x : ByteArray => x.data.toList) e⟩]
            clear HE HT
            have hbq : (T.toList == S.toList) = true := by rw [bq]; exact decide_eq_true hs1
            clear bq hs1
            go_wp2
            go_quiet (fail)
            go_wp2
            go_ret2
            exact ⟨⟨_, rfl, _, true, rfl, fun _ => HF.out, fun h => (by cases h)⟩, below_drawn (B2 _).out _⟩
          · have HF : Hid (showT ⟨1, s, 0, 0⟩ = none) := by
              show _ = _
              rw [HE.out]
              simp only []
              rw [if_neg (fun h => hs1 (by rw [HT.out, HS.out, h.2]))]
            clear HE HT
            have hbq : (T.toList == S.toList) = false := by rw [bq]; exact decide_eq_false hs1
            clear bq hs1
            go_wp2
            go_quiet (fail)
            go_wp2
            go_ret2
            exact ⟨⟨_, rfl, _, false, rfl, fun h => (by cases h), fun _ => HF.out⟩, below_drawn (B2 _).out _⟩
        · have HF : Hid (showT ⟨1, s, 0, 0⟩ = none) := by
            show _ = _
            rw [HE.out]
            simp only []
            rw [if_neg (fun h => hk1 h.1)]
          clear HE HT bq
          go_wp2
          go_quiet (fail)
          go_wp2
          go_ret2
          exact ⟨⟨_, rfl, _, false, rfl, fun h => (by cases h), fun _ => HF.out⟩, below_drawn (B2 _).out _⟩
      · have hz2 : (Z == (S.size : Int)) = false := by
          rw [beq_eq_false_iff_ne, hZ, HZ.out]
          have h1 : 0 < r.length := List.length_pos_iff.2 hr
          have := HP.out
          omega
        have HF : Hid (showT ⟨1, s, 0, 0⟩ = none) := by
          show _ = _
          rw [HE.out]
          cases r with
          | nil => exact absurd rfl hr
          | cons a b => rfl
        clear HE hZ ht hr bt
        go_wp2
        go_quiet (fail)
        go_wp2
        go_ret2
        exact ⟨⟨_, rfl, _, false, rfl, fun h => (by cases h), fun _ => HF.out⟩, below_drawn (B2 _).out _⟩
  · go_wp2_with fail
    refine (c _).mono ?_
    rintro e w1 ⟨⟨v, rfl, hv⟩, hb1⟩
    have B1 := hide (B0.out.trans (hb1.mono B0.out.size))
    have z1 : w.heap.size < w1.heap.size := Nat.lt_of_lt_of_le hz hb1.size
    have p0 := (hb1.cell (p := ⟨w.heap.size, 0, none⟩) hz).trans m0
    have p1 := (hb1.cell (p := ⟨w.heap.size, 1, none⟩) hz).trans m1
    have a0 := fun o => (World.cell?_alloc_lt w1 o ⟨w.heap.size, 0, none⟩ z1).trans p0
    have a1 := fun o => (World.cell?_alloc_lt w1 o ⟨w.heap.size, 1, none⟩ z1).trans p1
    clear hb1 c m0 m1 hz
    cases ht : oneTok s with
    | none =>
      rw [ht] at hv HE
      obtain ⟨t, q, rfl⟩ := hv
      unfold tkA
      clear ht
      go_wp2
      go_quiet (fail)
      go_wp2
      go_ret2
      exact ⟨⟨_, rfl, _, false, rfl, fun h => (by cases h), fun _ => HE.out⟩, below_drawn (B1.out.alloc B1.out.size _) _⟩
    | some x =>
      obtain ⟨t, r⟩ := x
      rw [ht] at hv HE
      obtain rfl : v = _ := hv
      obtain ⟨Z, hZ⟩ : ∃ Z : Int, Z = ((s.length - r.length : Nat) : Int) := ⟨_, rfl⟩
      rw [← hZ]
      unfold tkA
      have B2 := fun o => hide (B1.out.alloc B1.out.size o)
      by_cases hr : r = []
      · subst hr
        have hz2 : (Z == (S.size : Int)) = true := by rw [beq_iff_eq, hZ, HZ.out]; simp
        obtain ⟨T, hT⟩ : ∃ T : ByteArray, T = ⟨t.s.toArray⟩ := ⟨_, rfl⟩
        have HT := hide hT
        rw [← hT]
        have bq := bt T
        clear hZ hT ht bt
        by_cases hk1 : t.kind = 3
        · by_cases hs1 : T = S
          · have HF : Hid (showT ⟨3, s, 0, 0⟩ = some S.data.toList) := by
              show _ = _
              rw [HE.out, HSS.out]
              simp only []
              rw [if_pos ⟨hk1, by
                have e : (⟨t.s.toArray⟩ : ByteArray) = ⟨s.toArray⟩ := by rw [← HT.out, ← HS.out]; exact hs1
                simpa using congrArg (fun x : ByteArray => x.data.toList) e⟩]
            clear HE HT
            have hbq : (T.toList == S.toList) = true := by rw [bq]; exact decide_eq_true hs1
            clear bq hs1
            go_wp2
            go_quiet (fail)
            go_wp2
            go_ret2
            exact ⟨⟨_, rfl, _, true, rfl, fun _ => HF.out, fun h => (by cases h)⟩, below_drawn (B2 _).out _⟩
          · have HF : Hid (showT ⟨3, s, 0, 0⟩ = none) := by
              show _ = _
              rw [HE.out]
              simp only []
              rw [if_neg (fun h => hs1 (by rw [HT.out, HS.out, h.2]))]
            clear HE HT
            have hbq : (T.toList == S.toList) = false := by rw [bq]; exact decide_eq_false hs1
            clear bq hs1
            go_wp2
            go_quiet (fail)
            go_wp2
            go_ret2
            exact ⟨⟨_, rfl, _, false, rfl, fun h => (by cases h), fun _ => HF.out⟩, below_drawn (B2 _).out _⟩
        · have HF : Hid (showT ⟨3, s, 0, 0⟩ = none) := by
            show _ = _
            rw [HE.out]
            simp only []
            rw [if_neg (fun h => hk1 h.1)]
          clear HE HT bq
          go_wp2
          go_quiet (fail)
          go_wp2
          go_ret2
          exact ⟨⟨_, rfl, _, false, rfl, fun h => (by cases h), fun _ => HF.out⟩, below_drawn (B2 _).out _⟩
      · have hz2 : (Z == (S.size : Int)) = false := by
          rw [beq_eq_false_iff_ne, hZ, HZ.out]
          have h1 : 0 < r.length := List.length_pos_iff.2 hr
          have := HP.out
          omega
        have HF : Hid (showT ⟨3, s, 0, 0⟩ = none) := by
          show _ = _
          rw [HE.out]
          cases r with
          | nil => exact absurd rfl hr
          | cons a b => rfl
        clear HE hZ ht hr bt
        go_wp2
        go_quiet (fail)
        go_wp2
        go_ret2
        exact ⟨⟨_, rfl, _, false, rfl, fun h => (by cases h), fun _ => HF.out⟩, below_drawn (B2 _).out _⟩
end Go.Proofs.YtfcnbiikjopajaaDoor
