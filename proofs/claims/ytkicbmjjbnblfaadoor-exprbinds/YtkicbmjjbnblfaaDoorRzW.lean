/- The contracts of the reader's primary and unary, over those of number, field and of the rows' closure. -/
import Derived.Test.YtkicbmjjbnblfaaDoorRyW
namespace Go.Proofs.YtkicbmjjbnblfaaDoor
open Go.RowKit
theorem prd_eq (x : Tv) (k : Int) (s : Bs) : (decide (k = (tkV x).kind) && (s == (tkV x).s)) = decide (x.k = k ∧ x.s = ⟨s.toArray⟩) := by
  show (decide (k = x.k) && (s == x.s.data.toList)) = _
  rw [Bool.eq_iff_iff]
  simp only [Bool.and_eq_true, decide_eq_true_eq, beq_iff_eq]
  constructor
  · rintro ⟨a, b⟩; exact ⟨a.symm, text_eq.2 b.symm⟩
  · rintro ⟨a, b⟩; exact ⟨a.symm, (text_eq.1 b).symm⟩
set_option maxRecDepth 100000 in
theorem find_row (n : Nat) (hn : n < 7) (p : Int → Bs → Bool) : (opRows.find? fun r => decide (r.1 = (n : Int)) && p r.2.1 r.2.2.1).map (·.2.2.2) = ((rowOps n).find? fun y => p y.1 y.2.1).map (·.2.2) := by
  have hc : n = 0 ∨ n = 1 ∨ n = 2 ∨ n = 3 ∨ n = 4 ∨ n = 5 ∨ n = 6 := by omega
  rcases hc with rfl | rfl | rfl | rfl | rfl | rfl | rfl
  · simp [opRows, rowOps, List.find?_cons]
    cases p 1 [79, 82] <;> rfl
  · simp [opRows, rowOps, List.find?_cons]
    cases p 1 [88, 79, 82] <;> rfl
  · simp [opRows, rowOps, List.find?_cons]
    cases p 1 [65, 78, 68] <;> cases p 3 [38] <;> rfl
  · simp [opRows, rowOps, List.find?_cons]
    cases p 3 [61] <;> cases p 3 [60, 62] <;> rfl
  · simp [opRows, rowOps, List.find?_cons]
    cases p 3 [60] <;> cases p 3 [60, 61] <;> cases p 3 [62] <;> cases p 3 [62, 61] <;> rfl
  · simp [opRows, rowOps, List.find?_cons]
    cases p 3 [43] <;> cases p 3 [45] <;> rfl
  · simp [opRows, rowOps, List.find?_cons]
    cases p 3 [42] <;> cases p 3 [47] <;> cases p 1 [77, 79, 68] <;> rfl
theorem opRow_eq (row : Int) (x : Tv) : opRow row x = (opRows.find? fun r => decide (r.1 = row) && decide (x.k = r.2.1 ∧ x.s = ⟨r.2.2.1.toArray⟩)).map (·.2.2.2) := by
  unfold opRow
  congr 2
  funext r
  rw [Bool.eq_iff_iff]
  simp
theorem opIn_row (n : Nat) (hn : n < 7) (x : Tv) : opIn n (tkV x) = opRow (n : Int) x := by
  have e : (fun y : Int × Bs × Int => decide (y.1 = (tkV x).kind) && (y.2.1 == (tkV x).s)) = fun y => decide (x.k = y.1 ∧ x.s = ⟨y.2.1.toArray⟩) := by
    funext y
    exact prd_eq x y.1 y.2.1
  rw [opRow_eq]
  unfold opIn
  rw [e]
  exact (find_row n hn (fun k s => decide (x.k = k ∧ x.s = ⟨s.toArray⟩))).symm
set_option maxRecDepth 100000 in
theorem find_un (p : Int → Bs → Bool) : (opRows.find? fun r => decide (r.1 = (7 : Int)) && p r.2.1 r.2.2.1).map (·.2.2.2) = if p 1 [78, 79, 84] then some 16 else if p 3 [45] then some 15 else none := by
  simp [opRows, List.find?_cons]
  cases p 1 [78, 79, 84] <;> cases p 3 [45] <;> rfl
theorem unOp_row (x : Tv) : unOp (tkV x) = opRow 7 x := by
  rw [opRow_eq, find_un (fun k s => decide (x.k = k ∧ x.s = ⟨s.toArray⟩))]
  unfold unOp
  have e1 : (tkV x).kind = x.k := rfl
  have e2 : (tkV x).s = x.s.data.toList := rfl
  rw [e1, e2]
  by_cases h1 : x.k = 1 ∧ x.s = ⟨[78, 79, 84].toArray⟩
  · rw [if_neg (by rw [h1.1]; simp), if_pos ⟨h1.1, text_eq.1 h1.2⟩, if_pos (by simpa using h1)]
  · by_cases h3 : x.k = 3 ∧ x.s = ⟨[45].toArray⟩
    · rw [if_pos ⟨h3.1, text_eq.1 h3.2⟩, if_neg (by simpa using h1), if_pos (by simpa using h3)]
    · rw [if_neg (fun q => h3 ⟨q.1, text_eq.2 q.2⟩), if_neg (fun q => h1 ⟨q.1, text_eq.2 q.2⟩), if_neg (by simpa using h1), if_neg (by simpa using h3)]
theorem none_row (row : Int) : opRow row noTv = none := by
  rw [opRow_eq]
  have : ∀ r ∈ opRows, ¬ (noTv.k = r.2.1) := by decide
  rw [Option.map_eq_none_iff, List.find?_eq_none]
  intro r hr
  have := this r hr
  simp [this]
theorem pri_num {f op i : Nat} {toks : List Tv} (hlt : i < toks.length) (hk : (tokAt toks i).k = 2) : rd (f + 1) .pri op (lst toks i) = some (.ok ([numP (tokAt toks i).n (tokAt toks i).t], lst toks (i + 1))) := by
  rw [lst_cons hlt]
  unfold rd
  simp only []
  rw [if_pos (show (tkV (tokAt toks i)).kind = 2 from hk)]
  rfl
theorem pri_other {f op i : Nat} {toks : List Tv} (h1 : (tokAt toks i).k ≠ 1) (h2 : (tokAt toks i).k ≠ 2) : rd (f + 1) .pri op (lst toks i) = within [40] [41] op (lst toks i) (rd f (.row 0) (op + 1)) := by
  rcases Nat.lt_or_ge i toks.length with hlt | hge
  · rw [lst_cons hlt]
    unfold rd
    simp only []
    have e : (tkV (tokAt toks i)).kind = (tokAt toks i).k := rfl
    rw [e, if_neg h2, if_neg (fun q => h1 q.1), if_neg (fun q => h1 q.1), if_neg (fun q => h1 q.1), if_neg (fun q => h1 q.1)]
  · rw [lst_nil hge]
    rfl
theorem post_ret {B R : Nat} {tv : Value} {toks : List Tv} {op : Nat} {ps : List Pv} {fa fc : Int} {res : Res} {w w' : World} {e : Ending} (h : PostR B R tv toks op ps fa fc res w e w') : ∃ bb, e = .returned (.bool bb) := by
  obtain ⟨_, h⟩ := h
  cases res with
  | error z => obtain ⟨_, _⟩ := z; exact ⟨_, h.1⟩
  | ok z => obtain ⟨_, _⟩ := z; exact ⟨_, h.1⟩
theorem PostR.from {B R : Nat} {tv : Value} {toks : List Tv} {op : Nat} {ps : List Pv} {fa fc : Int} {res : Res} {w w1 w' : World} {e : Ending} (hk : Keep B R w w1) (h : PostR B R tv toks op ps fa fc res w1 e w') : PostR B R tv toks op ps fa fc res w e w' := ⟨hk.trans h.1, h.2⟩
/-- the contract of primary at so many turns -/
def PriOk (B R P1 P2 : Nat) (tv : Value) (toks : List Tv) (f : Nat) : Prop := ∀ (at_ op : Nat) (ps : List Pv) (fa fc : Int) (w : World) (res : Res), op ≤ 200 → ps.length ≤ at_ → RS B R tv toks at_ op ps fa fc w → Env B R P1 P2 w → rd f .pri op (lst toks at_) = some res →
  Calls Tryd.prog 57 #[.pointer (some ⟨R, 0, none⟩), fvOf P1 P2] w (PostR B R tv toks op ps fa fc res w)
def UnaOk (B R P1 P2 : Nat) (tv : Value) (toks : List Tv) (f : Nat) : Prop := ∀ (at_ op : Nat) (ps : List Pv) (fa fc : Int) (w : World) (res : Res), op ≤ 200 → ps.length ≤ at_ → RS B R tv toks at_ op ps fa fc w → Env B R P1 P2 w → rd f .una op (lst toks at_) = some res →
  Calls Tryd.prog 33 #[.pointer (some ⟨R, 0, none⟩), fvOf P1 P2] w (PostR B R tv toks op ps fa fc res w)
set_option maxRecDepth 100000 in
set_option maxHeartbeats 3200000 in
theorem pri_ok {B R P1 P2 : Nat} {tv : Value} {toks : List Tv} {f : Nat} (IH : RowOk B R P1 P2 tv toks f) (HFD : FieldOk B R tv toks) (hl : toks.length ≤ 3000000000000) : PriOk B R P1 P2 tv toks (f + 1) := by
  intro at_ op ps fa fc w res ho hp h he hr
  have c1 := next_any h (by omega)
  have hle := h.le
  have hhere := h.here
  have HH := hide h
  have HE := hide he
  obtain ⟨FV, hFV⟩ : ∃ FV, FV = fvOf P1 P2 := ⟨_, rfl⟩
  have HFV := hide hFV
  rw [← hFV]
  clear h he hFV
  have hat : ∀ kk : Int, kk ≠ 0 → (tokAt toks at_).k = kk → at_ < toks.length := fun kk hk0 hk => by
    rcases Nat.lt_or_ge at_ toks.length with h | h
    · exact h
    · rw [tok_none h] at hk
      exact absurd hk.symm hk0
  by_cases h2 : (tokAt toks at_).k = 2
  · have hlt := hat 2 (by decide) h2
    have HR2 : Hid (res = .ok ([numP (tokAt toks at_).n (tokAt toks at_).t], lst toks (at_ + 1))) := by
      show _ = _
      rw [pri_num hlt h2] at hr
      exact (Option.some.inj hr).symm
    have c2 := fun (W : World) (h : RS B R tv toks (at_ + 1) op ps fa fc W) => add_any h (by omega) ⟨1, (tokAt toks at_).n, (tokAt toks at_).t, ⟨#[]⟩, ⟨#[]⟩⟩
    have i3 : (at_ : Int) ≤ 3000000000000 := by omega
    have i4 : (0 : Int) ≤ (at_ : Int) := by omega
    have HLT := hide hlt
    clear hr hat hlt
    obtain ⟨X, hX⟩ : ∃ X, X = tokAt toks at_ := ⟨_, rfl⟩
    rw [← hX] at c1 c2 h2 HR2
    clear hX
    obtain ⟨xk, xs, xn, xt, xa⟩ := X
    simp only [] at h2
    subst h2
    unfold tvA at c1
    simp only [] at c1 c2 HR2
    go_enter Tryd.func57, Tryd.ntmps57
    go_wp2_with fail
    refine c1.mono ?_
    rintro e w1 ⟨rfl, hb1⟩
    have b1 := hb1.alloc hb1.size (.cells #[.int .i64 2, .string xs, .int .i64 xn, .int .i64 xt, .int .i64 xa] 44)
    have r1 := HH.out.below b1
    obtain ⟨f1, _, f3⟩ := r1.cells
    obtain ⟨r2, k2⟩ := r1.step HLT.out
    have c3 := c2 _ r2
    have K1 := hide ((Keep.of_below (R := R) b1 hle).trans k2)
    clear c1 c2 hb1 b1 r1 r2 k2
    go_wp2_with fail
    refine c3.mono ?_
    rintro e w2 ⟨rfl, hr2, hk2⟩
    have R2 := hide hr2
    have K2 := hide (K1.out.trans hk2)
    clear c3 hr2 hk2
    go_wp2
    go_ret
    refine ⟨K2.out, ?_⟩
    rw [HR2.out]
    refine ⟨rfl, [⟨1, xn, xt, ⟨#[]⟩, ⟨#[]⟩⟩], rfl, ?_⟩
    rw [lst_len, show toks.length - (toks.length - (at_ + 1)) = at_ + 1 from by have := HLT.out; omega]
    exact R2.out
  by_cases h1 : (tokAt toks at_).k = 1
  · have hlt := hat 1 (by decide) h1
    rw [pri_word hlt h1] at hr
    have c2 : ∀ W, RS B R tv toks at_ op ps fa fc W → Env B R P1 P2 W → Calls Tryd.prog 88 #[.pointer (some ⟨R, 0, none⟩), .string (tokAt toks at_).s, fvOf P1 P2] W (PostR B R tv toks op ps fa fc res W) := fun W h he => by
      by_cases ht : (tokAt toks at_).s.data.toList = truB
      · have := word_num (P1 := P1) (P2 := P2) (f := f) hl 1 truB (.inl ⟨rfl, rfl⟩) at_ op ps fa fc W res hp hlt h (by rw [← ht]; exact hr)
        rw [← text_eq.2 ht] at this
        exact this
      · by_cases hf : (tokAt toks at_).s.data.toList = falB
        · have := word_num (P1 := P1) (P2 := P2) (f := f) hl 0 falB (.inr ⟨rfl, rfl⟩) at_ op ps fa fc W res hp hlt h (by rw [← hf]; exact hr)
          rw [← text_eq.2 hf] at this
          exact this
        · exact word_other IH HFD hl _ ht hf at_ op ps fa fc W res ho hp hlt h he hr
    rw [← HFV.out] at c2
    clear hr hat hlt h2
    obtain ⟨X, hX⟩ : ∃ X, X = tokAt toks at_ := ⟨_, rfl⟩
    rw [← hX] at c1 c2 h1
    clear hX
    obtain ⟨xk, xs, xn, xt, xa⟩ := X
    simp only [] at h1
    subst h1
    unfold tvA at c1
    simp only [] at c1 c2
    go_enter Tryd.func57, Tryd.ntmps57
    go_wp2_with fail
    refine c1.mono ?_
    rintro e w1 ⟨rfl, hb1⟩
    have b1 := hb1.alloc hb1.size (.cells #[.int .i64 1, .string xs, .int .i64 xn, .int .i64 xt, .int .i64 xa] 44)
    have c3 := c2 _ (HH.out.below b1) (HE.out.below b1 hle)
    have K1 := hide (Keep.of_below (R := R) b1 hle)
    clear c1 c2 hb1 b1
    go_wp2_with fail
    refine c3.mono ?_
    rintro e w2 hpost
    obtain ⟨bb, rfl⟩ := post_ret hpost
    have HP := hide (PostR.from K1.out hpost)
    clear c3 hpost
    go_wp2
    go_ret
    exact HP.out
  · rw [pri_other h1 h2] at hr
    have c2 := fun W h1 h2 => within_any IH hl [40] [41] at_ op ps fa fc W res ho hp h1 h2 hr
    rw [← HFV.out] at c2
    clear hr hat
    obtain ⟨X, hX⟩ : ∃ X, X = tokAt toks at_ := ⟨_, rfl⟩
    rw [← hX] at c1 h1 h2
    clear hX
    obtain ⟨xk, xs, xn, xt, xa⟩ := X
    simp only [] at h1 h2
    have q1 : (xk == 1) = false := by rw [beq_eq_false_iff_ne]; exact h1
    have q2 : (xk == 2) = false := by rw [beq_eq_false_iff_ne]; exact h2
    unfold tvA at c1
    simp only [] at c1
    clear h1 h2
    go_enter Tryd.func57, Tryd.ntmps57
    go_wp2_with fail
    refine c1.mono ?_
    rintro e w1 ⟨rfl, hb1⟩
    have b1 := hb1.alloc hb1.size (.cells #[.int .i64 xk, .string xs, .int .i64 xn, .int .i64 xt, .int .i64 xa] 44)
    have c3 := c2 _ (HH.out.below b1) (HE.out.below b1 hle)
    have K1 := hide (Keep.of_below (R := R) b1 hle)
    clear c1 c2 hb1 b1
    go_wp2_with fail
    refine c3.mono ?_
    rintro e w2 hpost
    obtain ⟨bb, rfl⟩ := post_ret hpost
    have HP := hide (PostR.from K1.out hpost)
    clear c3 hpost
    go_wp2
    go_ret
    exact HP.out
end Go.Proofs.YtkicbmjjbnblfaaDoor
