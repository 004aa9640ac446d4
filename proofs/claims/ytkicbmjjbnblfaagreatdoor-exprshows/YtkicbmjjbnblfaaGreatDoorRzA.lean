/- The contracts of the reader's primary and unary, over those of number, field and of the rows' closure. | The contract of the reader's unary, and of the rows' closure, by the plain reader's turns. | The contract of the rows' closure, by the plain reader's turns. | The contract of the reader's field. | The contracts of expr.rowReader and of expr.Parse. -/
import Derived.Test.YtkicbmjjbnblfaaGreatDoorRxA
import Derived.Test.YtkicbmjjbnblfaaGreatDoorDcA
namespace Go.Proofs.YtkicbmjjbnblfaaGreatDoor
open Go.RowKit
theorem prd_eq (x : Tv) (k : Int) (s : Bs) : (decide (k = (tkV x).kind) && (s == (tkV x).s)) = decide (x.k = k ∧ x.s = ⟨s.toArray⟩) := by
  show (decide (k = x.k) && (s == x.s.data.toList)) = _
  rw [Bool.eq_iff_iff]
  simp only [Bool.and_eq_true, decide_eq_true_eq, beq_iff_eq]
  constructor
  · rintro ⟨a, b⟩; exact ⟨a.symm, text_eq.2 b.symm⟩
  · rintro ⟨a, b⟩; exact ⟨a.symm, (text_eq.1 b).symm⟩
set_option maxRecDepth 100000 in
theorem find_row (n : Nat) (hn : n < 7) (p : Int → Bs → Bool) : (opRows.find? fun r => decide (r.1 = (n : Int)) && p r.2.1 r.2.2.1).map (·.2.2.2) = ((rowOps n).find? fun y => p y.1 y.2.1).map (·.2.2) := by
  have hc : n = 0 ∨ n = 1 ∨ n = 2 ∨ n = 3 ∨ n = 4 ∨ n = 5 ∨ n = 6 := by omega
  rcases hc with rfl | rfl | rfl | rfl | rfl | rfl | rfl
  · simp [opRows, rowOps, List.find?_cons]
    cases p 1 [79, 82] <;> rfl
  · simp [opRows, rowOps, List.find?_cons]
    cases p 1 [88, 79, 82] <;> rfl
  · simp [opRows, rowOps, List.find?_cons]
    cases p 1 [65, 78, 68] <;> cases p 3 [38] <;> rfl
  · simp [opRows, rowOps, List.find?_cons]
    cases p 3 [61] <;> cases p 3 [60, 62] <;> rfl
  · simp [opRows, rowOps, List.find?_cons]
    cases p 3 [60] <;> cases p 3 [60, 61] <;> cases p 3 [62] <;> cases p 3 [62, 61] <;> rfl
  · simp [opRows, rowOps, List.find?_cons]
    cases p 3 [43] <;> cases p 3 [45] <;> rfl
  · simp [opRows, rowOps, List.find?_cons]
    cases p 3 [42] <;> cases p 3 [47] <;> cases p 1 [77, 79, 68] <;> rfl
theorem opRow_eq (row : Int) (x : Tv) : opRow row x = (opRows.find? fun r => decide (r.1 = row) && decide (x.k = r.2.1 ∧ x.s = ⟨r.2.2.1.toArray⟩)).map (·.2.2.2) := by
  unfold opRow
  congr 2
  funext r
  rw [Bool.eq_iff_iff]
  simp
theorem opIn_row (n : Nat) (hn : n < 7) (x : Tv) : opIn n (tkV x) = opRow (n : Int) x := by
  have e : (fun y : Int × Bs × Int => decide (y.1 = (tkV x).kind) && (y.2.1 == (tkV x).s)) = fun y => decide (x.k = y.1 ∧ x.s = ⟨y.2.1.toArray⟩) := by
    funext y
    exact prd_eq x y.1 y.2.1
  rw [opRow_eq]
  unfold opIn
  rw [e]
  exact (find_row n hn (fun k s => decide (x.k = k ∧ x.s = ⟨s.toArray⟩))).symm
set_option maxRecDepth 100000 in
theorem find_un (p : Int → Bs → Bool) : (opRows.find? fun r => decide (r.1 = (7 : Int)) && p r.2.1 r.2.2.1).map (·.2.2.2) = if p 1 [78, 79, 84] then some 16 else if p 3 [45] then some 15 else none := by
  simp [opRows, List.find?_cons]
  cases p 1 [78, 79, 84] <;> cases p 3 [45] <;> rfl
theorem unOp_row (x : Tv) : unOp (tkV x) = opRow 7 x := by
  rw [opRow_eq, find_un (fun k s => decide (x.k = k ∧ x.s = ⟨s.toArray⟩))]
  unfold unOp
  have e1 : (tkV x).kind = x.k := rfl
  have e2 : (tkV x).s = x.s.data.toList := rfl
  rw [e1, e2]
  by_cases h1 : x.k = 1 ∧ x.s = ⟨[78, 79, 84].toArray⟩
  · rw [if_neg (by rw [h1.1]; simp), if_pos ⟨h1.1, text_eq.1 h1.2⟩, if_pos (by simpa using h1)]
  · by_cases h3 : x.k = 3 ∧ x.s = ⟨[45].toArray⟩
    · rw [if_pos ⟨h3.1, text_eq.1 h3.2⟩, if_neg (by simpa using h1), if_pos (by simpa using h3)]
    · rw [if_neg (fun q => h3 ⟨q.1, text_eq.2 q.2⟩), if_neg (fun q => h1 ⟨q.1, text_eq.2 q.2⟩), if_neg (by simpa using h1), if_neg (by simpa using h3)]
theorem none_row (row : Int) : opRow row noTv = none := by
  rw [opRow_eq]
  have : ∀ r ∈ opRows, ¬ (noTv.k = r.2.1) := by decide
  rw [Option.map_eq_none_iff, List.find?_eq_none]
  intro r hr
  have := this r hr
  simp [this]
theorem pri_num {f op i : Nat} {toks : List Tv} (hlt : i < toks.length) (hk : (tokAt toks i).k = 2) : rd (f + 1) .pri op (lst toks i) = some (.ok ([numP (tokAt toks i).n (tokAt toks i).t], lst toks (i + 1))) := by
  rw [lst_cons hlt]
  unfold rd
  simp only []
  rw [if_pos (show (tkV (tokAt toks i)).kind = 2 from hk)]
  rfl
theorem pri_other {f op i : Nat} {toks : List Tv} (h1 : (tokAt toks i).k ≠ 1) (h2 : (tokAt toks i).k ≠ 2) : rd (f + 1) .pri op (lst toks i) = within [40] [41] op (lst toks i) (rd f (.row 0) (op + 1)) := by
  rcases Nat.lt_or_ge i toks.length with hlt | hge
  · rw [lst_cons hlt]
    unfold rd
    simp only []
    have e : (tkV (tokAt toks i)).kind = (tokAt toks i).k := rfl
    rw [e, if_neg h2, if_neg (fun q => h1 q.1), if_neg (fun q => h1 q.1), if_neg (fun q => h1 q.1), if_neg (fun q => h1 q.1)]
  · rw [lst_nil hge]
    rfl
theorem post_ret {B R : Nat} {tv : Value} {toks : List Tv} {op : Nat} {ps : List Pv} {fa fc : Int} {res : Res} {w w' : World} {e : Ending} (h : PostR B R tv toks op ps fa fc res w e w') : ∃ bb, e = .returned (.bool bb) := by
  obtain ⟨_, h⟩ := h
  cases res with
  | error z => obtain ⟨_, _⟩ := z; exact ⟨_, h.1⟩
  | ok z => obtain ⟨_, _⟩ := z; exact ⟨_, h.1⟩
theorem PostR.from {B R : Nat} {tv : Value} {toks : List Tv} {op : Nat} {ps : List Pv} {fa fc : Int} {res : Res} {w w1 w' : World} {e : Ending} (hk : Keep B R w w1) (h : PostR B R tv toks op ps fa fc res w1 e w') : PostR B R tv toks op ps fa fc res w e w' := ⟨hk.trans h.1, h.2⟩
/-- the contract of primary at so many turns -/
def PriOk (B R P1 P2 : Nat) (tv : Value) (toks : List Tv) (f : Nat) : Prop := ∀ (at_ op : Nat) (ps : List Pv) (fa fc : Int) (w : World) (res : Res), op ≤ 200 → ps.length ≤ at_ → RS B R tv toks at_ op ps fa fc w → Env B R P1 P2 w → rd f .pri op (lst toks at_) = some res →
  Calls Tryz.prog 101 #[.pointer (some ⟨R, 0, none⟩), fvOf P1 P2] w (PostR B R tv toks op ps fa fc res w)
def UnaOk (B R P1 P2 : Nat) (tv : Value) (toks : List Tv) (f : Nat) : Prop := ∀ (at_ op : Nat) (ps : List Pv) (fa fc : Int) (w : World) (res : Res), op ≤ 200 → ps.length ≤ at_ → RS B R tv toks at_ op ps fa fc w → Env B R P1 P2 w → rd f .una op (lst toks at_) = some res →
  Calls Tryz.prog 88 #[.pointer (some ⟨R, 0, none⟩), fvOf P1 P2] w (PostR B R tv toks op ps fa fc res w)
set_option maxRecDepth 100000 in
set_option maxHeartbeats 3200000 in
theorem pri_ok {B R P1 P2 : Nat} {tv : Value} {toks : List Tv} {f : Nat} (IH : RowOk B R P1 P2 tv toks f) (HFD : FieldOk B R tv toks) (hl : toks.length ≤ 3000000000000) : PriOk B R P1 P2 tv toks (f + 1) := by
  intro at_ op ps fa fc w res ho hp h he hr
  have c1 := next_any h (by omega)
  have hle := h.le
  have hhere := h.here
  have HH := hide h
  have HE := hide he
  obtain ⟨FV, hFV⟩ : ∃ FV, FV = fvOf P1 P2 := ⟨_, rfl⟩
  have HFV := hide hFV
  rw [← hFV]
  clear h he hFV
  have hat : ∀ kk : Int, kk ≠ 0 → (tokAt toks at_).k = kk → at_ < toks.length := fun kk hk0 hk => by
    rcases Nat.lt_or_ge at_ toks.length with h | h
    · exact h
    · rw [tok_none h] at hk
      exact absurd hk.symm hk0
  by_cases h2 : (tokAt toks at_).k = 2
  · have hlt := hat 2 (by decide) h2
    have HR2 : Hid (res = .ok ([numP (tokAt toks at_).n (tokAt toks at_).t], lst toks (at_ + 1))) := by
      show _ = _
      rw [pri_num hlt h2] at hr
      exact (Option.some.inj hr).symm
    have c2 := fun (W : World) (h : RS B R tv toks (at_ + 1) op ps fa fc W) => add_any h (by omega) ⟨1, (tokAt toks at_).n, (tokAt toks at_).t, ⟨#[]⟩, ⟨#[]⟩⟩
    have i3 : (at_ : Int) ≤ 3000000000000 := by omega
    have i4 : (0 : Int) ≤ (at_ : Int) := by omega
    have HLT := hide hlt
    clear hr hat hlt
    obtain ⟨X, hX⟩ : ∃ X, X = tokAt toks at_ := ⟨_, rfl⟩
    rw [← hX] at c1 c2 h2 HR2
    clear hX
    obtain ⟨xk, xs, xn, xt, xa⟩ := X
    simp only [] at h2
    subst h2
    unfold tvA at c1
    simp only [] at c1 c2 HR2
    go_enter Tryz.func101, Tryz.ntmps101
    go_wp2_with fail
    refine c1.mono ?_
    rintro e w1 ⟨rfl, hb1⟩
    have b1 := hb1.alloc hb1.size (.cells #[.int .i64 2, .string xs, .int .i64 xn, .int .i64 xt, .int .i64 xa] 54)
    have r1 := HH.out.below b1
    obtain ⟨f1, _, f3⟩ := r1.cells
    obtain ⟨r2, k2⟩ := r1.step HLT.out
    have c3 := c2 _ r2
    have K1 := hide ((Keep.of_below (R := R) b1 hle).trans k2)
    clear c1 c2 hb1 b1 r1 r2 k2
    go_wp2_with fail
    refine c3.mono ?_
    rintro e w2 ⟨rfl, hr2, hk2⟩
    have R2 := hide hr2
    have K2 := hide (K1.out.trans hk2)
    clear c3 hr2 hk2
    go_wp2
    go_ret
    refine ⟨K2.out, ?_⟩
    rw [HR2.out]
    refine ⟨rfl, [⟨1, xn, xt, ⟨#[]⟩, ⟨#[]⟩⟩], rfl, ?_⟩
    rw [lst_len, show toks.length - (toks.length - (at_ + 1)) = at_ + 1 from by have := HLT.out; omega]
    exact R2.out
  by_cases h1 : (tokAt toks at_).k = 1
  · have hlt := hat 1 (by decide) h1
    rw [pri_word hlt h1] at hr
    have c2 : ∀ W, RS B R tv toks at_ op ps fa fc W → Env B R P1 P2 W → Calls Tryz.prog 112 #[.pointer (some ⟨R, 0, none⟩), .string (tokAt toks at_).s, fvOf P1 P2] W (PostR B R tv toks op ps fa fc res W) := fun W h he => by
      by_cases ht : (tokAt toks at_).s.data.toList = truB
      · have := word_num (P1 := P1) (P2 := P2) (f := f) hl 1 truB (.inl ⟨rfl, rfl⟩) at_ op ps fa fc W res hp hlt h (by rw [← ht]; exact hr)
        rw [← text_eq.2 ht] at this
        exact this
      · by_cases hf : (tokAt toks at_).s.data.toList = falB
        · have := word_num (P1 := P1) (P2 := P2) (f := f) hl 0 falB (.inr ⟨rfl, rfl⟩) at_ op ps fa fc W res hp hlt h (by rw [← hf]; exact hr)
          rw [← text_eq.2 hf] at this
          exact this
        · exact word_other IH HFD hl _ ht hf at_ op ps fa fc W res ho hp hlt h he hr
    rw [← HFV.out] at c2
    clear hr hat hlt h2
    obtain ⟨X, hX⟩ : ∃ X, X = tokAt toks at_ := ⟨_, rfl⟩
    rw [← hX] at c1 c2 h1
    clear hX
    obtain ⟨xk, xs, xn, xt, xa⟩ := X
    simp only [] at h1
    subst h1
    unfold tvA at c1
    simp only [] at c1 c2
    go_enter Tryz.func101, Tryz.ntmps101
    go_wp2_with fail
    refine c1.mono ?_
    rintro e w1 ⟨rfl, hb1⟩
    have b1 := hb1.alloc hb1.size (.cells #[.int .i64 1, .string xs, .int .i64 xn, .int .i64 xt, .int .i64 xa] 54)
    have c3 := c2 _ (HH.out.below b1) (HE.out.below b1 hle)
    have K1 := hide (Keep.of_below (R := R) b1 hle)
    clear c1 c2 hb1 b1
    go_wp2_with fail
    refine c3.mono ?_
    rintro e w2 hpost
    obtain ⟨bb, rfl⟩ := post_ret hpost
    have HP := hide (PostR.from K1.out hpost)
    clear c3 hpost
    go_wp2
    go_ret
    exact HP.out
  · rw [pri_other h1 h2] at hr
    have c2 := fun W h1 h2 => within_any IH hl [40] [41] at_ op ps fa fc W res ho hp h1 h2 hr
    rw [← HFV.out] at c2
    clear hr hat
    obtain ⟨X, hX⟩ : ∃ X, X = tokAt toks at_ := ⟨_, rfl⟩
    rw [← hX] at c1 h1 h2
    clear hX
    obtain ⟨xk, xs, xn, xt, xa⟩ := X
    simp only [] at h1 h2
    have q1 : (xk == 1) = false := by rw [beq_eq_false_iff_ne]; exact h1
    have q2 : (xk == 2) = false := by rw [beq_eq_false_iff_ne]; exact h2
    unfold tvA at c1
    simp only [] at c1
    clear h1 h2
    go_enter Tryz.func101, Tryz.ntmps101
    go_wp2_with fail
    refine c1.mono ?_
    rintro e w1 ⟨rfl, hb1⟩
    have b1 := hb1.alloc hb1.size (.cells #[.int .i64 xk, .string xs, .int .i64 xn, .int .i64 xt, .int .i64 xa] 54)
    have c3 := c2 _ (HH.out.below b1) (HE.out.below b1 hle)
    have K1 := hide (Keep.of_below (R := R) b1 hle)
    clear c1 c2 hb1 b1
    go_wp2_with fail
    refine c3.mono ?_
    rintro e w2 hpost
    obtain ⟨bb, rfl⟩ := post_ret hpost
    have HP := hide (PostR.from K1.out hpost)
    clear c3 hpost
    go_wp2
    go_ret
    exact HP.out
end Go.Proofs.YtkicbmjjbnblfaaGreatDoor
namespace Go.Proofs.YtkicbmjjbnblfaaGreatDoor
open Go.RowKit
/-- the closure at the last row, by the turns of a value with its signs -/
def TopOk (B R P1 P2 : Nat) (tv : Value) (toks : List Tv) (f : Nat) : Prop := ∀ (at_ op : Nat) (ps : List Pv) (fa fc : Int) (w : World) (res : Res), op ≤ 200 → ps.length ≤ at_ → RS B R tv toks at_ op ps fa fc w → Env B R P1 P2 w → rd f .una op (lst toks at_) = some res →
  Calls Tryz.prog 87 #[.int .i64 7, .pointer (some ⟨P1, 0, none⟩), .pointer (some ⟨P2, 0, none⟩)] w (PostR B R tv toks op ps fa fc res w)
set_option maxRecDepth 100000 in
set_option maxHeartbeats 1600000 in
theorem top_ok {B R P1 P2 : Nat} {tv : Value} {toks : List Tv} {f : Nat} (IH : UnaOk B R P1 P2 tv toks f) : TopOk B R P1 P2 tv toks f := by
  intro at_ op ps fa fc w res ho hp h he hr
  have c := IH at_ op ps fa fc w res ho hp h he hr
  have e1 := he.c1
  have e2 := he.c2
  obtain ⟨FV, hFV⟩ : ∃ FV, FV = fvOf P1 P2 := ⟨_, rfl⟩
  rw [← hFV] at c e2
  clear h he hr hFV
  go_enter Tryz.func87, Tryz.ntmps87
  go_wp2_with fail
  refine c.mono ?_
  rintro e w2 hpost
  obtain ⟨bb, rfl⟩ := post_ret hpost
  have HP := hide hpost
  clear c hpost
  go_wp2
  go_ret
  exact HP.out
theorem una_none {f op i : Nat} {toks : List Tv} (h : opRow 7 (tokAt toks i) = none) : rd (f + 1) .una op (lst toks i) = rd f .pri op (lst toks i) := by
  rcases Nat.lt_or_ge i toks.length with hlt | hge
  · rw [lst_cons hlt]
    conv => lhs; unfold rd
    simp only []
    rw [unOp_row, h]
  · rw [lst_nil hge]
    rfl
theorem una_some {f op i : Nat} {toks : List Tv} {k : Int} (h : opRow 7 (tokAt toks i) = some k) (hlt : i < toks.length) : rd (f + 1) .una op (lst toks i) = if 200 ≤ op then some (.error ((lst toks (i + 1)).length + 1, 2)) else addP (opP k) (rd f .una (op + 1) (lst toks (i + 1))) := by
  rw [lst_cons hlt]
  conv => lhs; unfold rd
  simp only []
  rw [unOp_row, h]
set_option maxRecDepth 100000 in
set_option maxHeartbeats 3200000 in
theorem una_ok {B R P1 P2 : Nat} {tv : Value} {toks : List Tv} {f : Nat} (IP : PriOk B R P1 P2 tv toks f) (IT : TopOk B R P1 P2 tv toks f) (hl : toks.length ≤ 3000000000000) : UnaOk B R P1 P2 tv toks (f + 1) := by
  intro at_ op ps fa fc w res ho hp h he hr
  have c1 := operation_any h (by omega) 7 he.glo.ops
  have hle := h.le
  have HH := hide h
  have HE := hide he
  obtain ⟨FV, hFV⟩ : ∃ FV, FV = fvOf P1 P2 := ⟨_, rfl⟩
  have HFV := hide hFV
  clear h he
  cases hq : opRow 7 (tokAt toks at_) with
  | none =>
    rw [hq] at c1
    rw [una_none hq] at hr
    have c2 := fun W h1 h2 => IP at_ op ps fa fc W res ho hp h1 h2 hr
    rw [← hFV] at c2 ⊢
    unfold opOut at c1
    simp only [] at c1
    clear hr hq hFV
    go_enter Tryz.func88, Tryz.ntmps88
    go_wp2_with fail
    refine c1.mono ?_
    rintro e w1 ⟨rfl, hb1⟩
    have c3 := c2 _ (HH.out.below hb1) (HE.out.below hb1 hle)
    have K1 := hide (Keep.of_below (R := R) hb1 hle)
    clear c1 c2 hb1
    go_wp2_with fail
    refine c3.mono ?_
    rintro e w2 hpost
    obtain ⟨bb, rfl⟩ := post_ret hpost
    have HP := hide (PostR.from K1.out hpost)
    clear c3 hpost
    go_wp2
    go_ret
    exact HP.out
  | some k =>
    rw [hq] at c1
    have hlt : at_ < toks.length := by
      rcases Nat.lt_or_ge at_ toks.length with h | h
      · exact h
      · rw [tok_none h, none_row] at hq
        cases hq
    rw [una_some hq hlt] at hr
    unfold opOut at c1
    simp only [] at c1
    by_cases h2 : op = 200
    · rw [if_pos (by omega), lst_len] at hr
      have HR2 : Hid (res = .error (toks.length - at_, 2)) := by
        show _ = _
        rw [← Option.some.inj hr]
        congr 2
        omega
      rw [← hFV]
      clear hr hq hFV
      go_enter Tryz.func88, Tryz.ntmps88
      go_wp2_with fail
      refine c1.mono ?_
      rintro e w1 ⟨rfl, hb1⟩
      have c2 := open_full (HH.out.below hb1) h2
      have K1 := hide (Keep.of_below (R := R) hb1 hle)
      clear c1 hb1 h2
      go_wp2_with fail
      refine c2.mono ?_
      rintro e w2 ⟨rfl, hr2, hk2⟩
      have R2 := hide hr2
      have K2 := hide (K1.out.trans hk2)
      clear c2 hr2 hk2
      go_wp2
      go_ret
      refine ⟨K2.out, ?_⟩
      rw [HR2.out]
      refine ⟨rfl, at_, op, ps, ?_⟩
      rw [show ((toks.length - (toks.length - at_) : Nat) : Int) = (at_ : Int) from by omega]
      exact R2.out
    · rw [if_neg (by omega)] at hr
      cases hz : rd f .una (op + 1) (lst toks (at_ + 1)) with
      | none => rw [hz] at hr; cases hr
      | some z =>
        rw [hz] at hr
        have HRR := hide hr
        have HZ := hide hz
        unfold fvOf
        clear hr hq hz hFV HFV
        go_enter Tryz.func88, Tryz.ntmps88
        go_wp2_with fail
        refine c1.mono ?_
        rintro e w1 ⟨rfl, hb1⟩
        have c2 := open_more (HH.out.below hb1) (by omega) (by omega) hlt
        have E1 := hide (HE.out.below hb1 hle)
        have K1 := hide (Keep.of_below (R := R) hb1 hle)
        clear c1 hb1
        go_wp2_with fail
        refine c2.mono ?_
        rintro e w2 ⟨rfl, hr2, hk2⟩
        have c3 := IT (at_ + 1) (op + 1) ps fa fc w2 z (by omega) (by omega) hr2 (E1.out.keep hk2) HZ.out
        have K2 := hide (K1.out.trans hk2)
        clear c2 hr2 hk2 E1 K1
        go_wp2_with fail
        refine c3.mono ?_
        rintro e w3 ⟨hk3, hp3⟩
        have K3 := hide (K2.out.trans hk3)
        clear c3 hk3 K2
        cases z with
        | error z =>
          obtain ⟨kk, c⟩ := z
          simp only [] at hp3
          obtain ⟨rfl, at2, op2, ps2, hr3⟩ := hp3
          have R3 := hide hr3
          have HR2 : Hid (res = .error (kk, c)) := (Option.some.inj HRR.out).symm
          clear hr3
          go_wp2
          go_ret
          refine ⟨K3.out, ?_⟩
          rw [HR2.out]
          exact ⟨rfl, at2, op2, ps2, R3.out⟩
        | ok z =>
          obtain ⟨x, r⟩ := z
          simp only [] at hp3
          obtain ⟨rfl, xs, hxs, hr3⟩ := hp3
          have hpp := (rd_reads HZ.out).parts
          rw [lst_len] at hpp
          have hxl : xs.length = x.length := by rw [← hxs, List.length_map]
          obtain ⟨_, d2, d3⟩ := hr3.cells
          obtain ⟨r4, k4⟩ := hr3.shut
          have c4 := add_any r4 (by rw [List.length_append]; omega) ⟨5, k, 0, ⟨#[]⟩, ⟨#[]⟩⟩
          have HR2 : Hid (res = .ok (x ++ [opP k], r)) := (Option.some.inj HRR.out).symm
          have HXS := hide hxs
          have K4 := hide (K3.out.trans k4)
          simp only [] at c4
          have d2' : w3.cell? ⟨R, 2, none⟩ = some (.int .i64 ((op : Int) + 1)) := d2
          have i5 : (op : Int) ≤ 200 := by omega
          have i6 : (0 : Int) ≤ (op : Int) := by omega
          clear hr3 hxs hxl hpp r4 k4 d2
          go_wp2_with fail
          refine c4.mono ?_
          rintro e w5 ⟨rfl, hr5, hk5⟩
          have R5 := hide hr5
          have K5 := hide (K4.out.trans hk5)
          clear c4 hr5 hk5
          go_wp2
          go_ret
          refine ⟨K5.out, ?_⟩
          rw [HR2.out]
          refine ⟨rfl, xs ++ [⟨5, k, 0, ⟨#[]⟩, ⟨#[]⟩⟩], by rw [List.map_append, HXS.out]; rfl, ?_⟩
          rw [← List.append_assoc]
          exact R5.out
end Go.Proofs.YtkicbmjjbnblfaaGreatDoor
namespace Go.Proofs.YtkicbmjjbnblfaaGreatDoor
open Go.RowKit
/-- what was read ahead, and then -/
def glue (x : List Pt) : Res → Res
  | .ok (y, r) => .ok (x ++ y, r)
  | .error e => .error e
theorem row_split {f n op : Nat} {l : List Tk} {res : Res} (hn : n < 7) (h : rd (f + 1) (.row n) op l = some res) : (∃ e, rd f (.row (n + 1)) op l = some (.error e) ∧ res = .error e) ∨ ∃ x r z, rd f (.row (n + 1)) op l = some (.ok (x, r)) ∧ rd f (.loop n) op r = some z ∧ res = glue x z := by
  unfold rd at h
  rw [if_neg (by omega)] at h
  cases h1 : rd f (.row (n + 1)) op l with
  | none => rw [h1] at h; cases h
  | some z =>
    rw [h1] at h
    cases z with
    | error e => exact .inl ⟨e, rfl, (Option.some.inj h).symm⟩
    | ok z =>
      obtain ⟨x, r⟩ := z
      simp only [] at h
      cases h2 : rd f (.loop n) op r with
      | none => rw [h2] at h; cases h
      | some z =>
        rw [h2] at h
        cases z with
        | error e => exact .inr ⟨x, r, .error e, rfl, h2, (Option.some.inj h).symm⟩
        | ok z =>
          obtain ⟨y, r'⟩ := z
          exact .inr ⟨x, r, .ok (y, r'), rfl, h2, (Option.some.inj h).symm⟩
theorem loop_none {g n op i : Nat} {toks : List Tv} {z : Res} (hn : n < 7) (h : rd g (.loop n) op (lst toks i) = some z) (ho : opRow (n : Int) (tokAt toks i) = none) : z = .ok ([], lst toks i) := by
  cases g with
  | zero => cases h
  | succ g =>
    rcases Nat.lt_or_ge i toks.length with hlt | hge
    · rw [lst_cons hlt] at h ⊢
      unfold rd at h
      simp only [] at h
      rw [opIn_row n hn, ho] at h
      exact (Option.some.inj h).symm
    · rw [lst_nil hge] at h ⊢
      exact (Option.some.inj h).symm
theorem loop_some {g n op i : Nat} {toks : List Tv} {z : Res} {k : Int} (hn : n < 7) (hlt : i < toks.length) (h : rd g (.loop n) op (lst toks i) = some z) (ho : opRow (n : Int) (tokAt toks i) = some k) : ∃ g', g = g' + 1 ∧ ((∃ e, rd g' (.row (n + 1)) op (lst toks (i + 1)) = some (.error e) ∧ z = .error e) ∨ ∃ x r z', rd g' (.row (n + 1)) op (lst toks (i + 1)) = some (.ok (x, r)) ∧ rd g' (.loop n) op r = some z' ∧ z = glue (x ++ [opP k]) z') := by
  cases g with
  | zero => cases h
  | succ g =>
    refine ⟨g, rfl, ?_⟩
    rw [lst_cons hlt] at h
    unfold rd at h
    simp only [] at h
    rw [opIn_row n hn, ho] at h
    simp only [] at h
    cases h1 : rd g (.row (n + 1)) op (lst toks (i + 1)) with
    | none => rw [h1] at h; cases h
    | some y =>
      rw [h1] at h
      cases y with
      | error e => exact .inl ⟨e, rfl, (Option.some.inj h).symm⟩
      | ok y =>
        obtain ⟨x, r⟩ := y
        simp only [] at h
        cases h2 : rd g (.loop n) op r with
        | none => rw [h2] at h; cases h
        | some z' =>
          rw [h2] at h
          cases z' with
          | error e => exact .inr ⟨x, r, .error e, rfl, h2, (Option.some.inj h).symm⟩
          | ok z' =>
            obtain ⟨y, r'⟩ := z'
            refine .inr ⟨x, r, .ok (y, r'), rfl, h2, ?_⟩
            rw [← Option.some.inj h]
            show _ = Except.ok (x ++ [opP k] ++ y, r')
            rw [List.append_assoc]; rfl
theorem glue_glue (x y : List Pt) (z : Res) : glue x (glue y z) = glue (x ++ y) z := by
  cases z with
  | error e => rfl
  | ok z => obtain ⟨a, r⟩ := z; show Except.ok (x ++ (y ++ a), r) = Except.ok (x ++ y ++ a, r); rw [List.append_assoc]
/-- how many tokens are left, by the reader's own memory -/
def left (R n : Nat) (w : World) : Nat := match w.cell? ⟨R, 1, none⟩ with
  | some (.int _ a) => n - a.toNat
  | _ => 0
theorem left_of {B R : Nat} {tv : Value} {toks : List Tv} {at_ op : Nat} {ps : List Pv} {fa fc : Int} {w : World} (h : RS B R tv toks at_ op ps fa fc w) (n : Nat) : left R n w = n - at_ := by
  unfold left
  rw [h.cells.1]
  simp
set_option maxRecDepth 100000 in
set_option maxHeartbeats 3200000 in
theorem row_ok {B R P1 P2 : Nat} {tv : Value} {toks : List Tv} {f : Nat} (IH : ∀ g, g ≤ f → RowOk B R P1 P2 tv toks g) (IT : TopOk B R P1 P2 tv toks f) (hl : toks.length ≤ 3000000000000) : RowOk B R P1 P2 tv toks (f + 1) := by
  intro n at_ op ps fa fc w res hn ho hp h he hr
  by_cases h7 : n = 7
  · subst h7
    have hr' : rd f .una op (lst toks at_) = some res := by
      unfold rd at hr
      rw [if_pos (by omega)] at hr
      exact hr
    exact IT at_ op ps fa fc w res ho hp h he hr'
  have hn7 : n < 7 := by omega
  have hle := h.le
  have e1 := he.c1
  have e2 := he.c2
  have hB := h.hB
  have q7 : ((n : Int) == 7) = false := by rw [beq_eq_false_iff_ne]; omega
  have n6 : (n : Int) ≤ 6 := by omega
  have n0 : (0 : Int) ≤ (n : Int) := by omega
  have hhere := h.here
  have HE := hide he
  have hIH := IH f (Nat.le_refl _)
  have hc : ∀ (g at2 : Nat) (ps2 : List Pv) (W : World) (z : Res), g ≤ f → ps2.length ≤ at2 → RS B R tv toks at2 op ps2 fa fc W → Env B R P1 P2 W → rd g (.row (n + 1)) op (lst toks at2) = some z → Calls Tryz.prog 87 #[.int .i64 ((n : Int) + 1), .pointer (some ⟨P1, 0, none⟩), .pointer (some ⟨P2, 0, none⟩)] W (PostR B R tv toks op ps2 fa fc z W) := fun g at2 ps2 W z hg hp2 h2 he2 hr2 => by
    have := IH g hg (n + 1) at2 op ps2 fa fc W z (by omega) ho hp2 h2 he2 hr2
    rw [show ((n + 1 : Nat) : Int) = (n : Int) + 1 from by omega] at this
    exact this
  have HC := hide hc
  unfold fvOf at e2
  rcases row_split hn7 hr with ⟨er, hr1, rfl⟩ | ⟨x, r, z, hr1, hr2, hres⟩
  · have c1 := hc f at_ ps w (.error er) (Nat.le_refl _) hp h he hr1
    obtain ⟨kk, c⟩ := er
    clear h he hr hr1 hc hIH IH
    go_enter Tryz.func87, Tryz.ntmps87
    go_wp2_with fail
    refine c1.mono ?_
    rintro e w1 ⟨hk1, rfl, hp1⟩
    have K1 := hide hk1
    have P1' := hide hp1
    clear c1 hk1 hp1
    go_wp2
    go_ret
    exact ⟨K1.out, rfl, P1'.out⟩
  · have c1 := hc f at_ ps w (.ok (x, r)) (Nat.le_refl _) hp h he hr1
    obtain ⟨hrest, hrl⟩ := rest_lst hr1 hhere
    have hpp := (rd_reads hr1).parts
    rw [lst_len] at hpp
    have HR1 := hide hr1
    have HRES := hide hres
    have HR2 := hide hr2
    clear h he hr hr1 hc hIH IH hr2 hres
    go_enter Tryz.func87, Tryz.ntmps87
    go_wp2_with fail
    refine c1.mono ?_
    rintro e w1 ⟨hk1, rfl, xs, hxs, hr1⟩
    have hxl : xs.length = x.length := by rw [← hxs, List.length_map]
    have HS : Hid (∃ (g at2 : Nat) (ys : List Pv) (z' : Res), g ≤ f ∧ at2 ≤ toks.length ∧ (ps ++ ys).length ≤ at2 ∧ RS B R tv toks at2 op (ps ++ ys) fa fc w1 ∧ Keep B R w w1 ∧ rd g (.loop n) op (lst toks at2) = some z' ∧ res = glue (ys.map ptV) z') :=
      ⟨f, toks.length - r.length, xs, z, Nat.le_refl _, by omega, by rw [List.length_append]; omega, hr1, hk1, by rw [← hrest]; exact HR2.out, by rw [hxs]; exact HRES.out⟩
    clear c1 hk1 hxs hr1 hxl hpp hrest hrl HRES HR2 HR1
    go_wp2_with fail
    go_loopw [5] (fun _ wr => Hid (∃ (g at2 : Nat) (ys : List Pv) (z' : Res), g ≤ f ∧ at2 ≤ toks.length ∧ (ps ++ ys).length ≤ at2 ∧ RS B R tv toks at2 op (ps ++ ys) fa fc wr ∧ Keep B R w wr ∧ rd g (.loop n) op (lst toks at2) = some z' ∧ res = glue (ys.map ptV) z')) (fun _ wr => left R toks.length wr)
    case atStart => exact HS.out
    case round =>
      clear HS
      obtain ⟨g, at2, ys, z', hg, hat, hpy, hrs, hkw, hrd, hres⟩ := hrel.out
      clear hrel
      have E2 := HE.out.keep hkw
      have s1 := E2.c1
      have s2 := E2.c2
      unfold fvOf at s2
      have c2 := operation_any hrs (by omega) (n : Int) E2.glo.ops
      have hle2 := hrs.le
      have RR := hide hrs
      have KW := hide hkw
      have EE := hide E2
      have HRD := hide hrd
      have HRES := hide hres
      clear hrs hkw E2 hrd hres e1 e2
      cases hq : opRow (n : Int) (tokAt toks at2) with
      | none =>
        rw [hq] at c2
        have HZ := hide (loop_none hn7 HRD.out hq)
        unfold opOut at c2
        simp only [] at c2
        clear hq
        go_wp2_with fail
        refine c2.mono ?_
        rintro e w2 ⟨rfl, hb2⟩
        have R2 := hide (RR.out.below hb2)
        have K2 := hide (KW.out.trans (Keep.of_below (R := R) hb2 hle2))
        clear c2 hb2
        go_wp2
        go_ret
        refine ⟨K2.out, ?_⟩
        rw [HRES.out, HZ.out]
        show _ ∧ _
        refine ⟨rfl, ys, by rw [List.append_nil], ?_⟩
        rw [lst_len, show toks.length - (toks.length - at2) = at2 from by omega]
        exact R2.out
      | some k =>
        rw [hq] at c2
        have hlt : at2 < toks.length := by
          rcases Nat.lt_or_ge at2 toks.length with h | h
          · exact h
          · rw [tok_none h, none_row] at hq
            cases hq
        obtain ⟨g', rfl, hcase⟩ := loop_some hn7 hlt HRD.out hq
        unfold opOut at c2
        simp only [] at c2
        have HCASE := hide hcase
        have i3 : (at2 : Int) ≤ 3000000000000 := by omega
        have i4 : (0 : Int) ≤ (at2 : Int) := by omega
        have HLEFT := hide (left_of RR.out toks.length)
        clear hq hcase HRD
        go_wp2_with fail
        refine c2.mono ?_
        rintro e w2 ⟨rfl, hb2⟩
        have r2 := RR.out.below hb2
        have k2 := Keep.of_below (R := R) hb2 hle2
        obtain ⟨d1, _, d3⟩ := r2.cells
        obtain ⟨r3, k3⟩ := r2.step hlt
        have E3 := (EE.out.keep k2).keep k3
        have E2' := EE.out.keep k2
        have t1 := E2'.c1
        have t2 := E2'.c2
        unfold fvOf at t2
        have hRP1 := E2'.n1
        have hRP2 := E2'.n2
        have K3 := hide (KW.out.trans (k2.trans k3))
        have R3 := hide r3
        have HE3 := hide E3
        clear c2 hb2 r2 k2 r3 k3 E3 E2' s1 s2
        rcases HCASE.out with ⟨er, hr1, hz⟩ | ⟨x2, r2, z2, hr1, hr2, hz⟩
        · obtain ⟨kk, c⟩ := er
          have c3 := HC.out g' (at2 + 1) (ps ++ ys) _ (.error (kk, c)) (by omega) (by omega) R3.out HE3.out hr1
          have HZ := hide hz
          clear hr1 hz HCASE
          go_wp2_with fail
          refine c3.mono ?_
          rintro e w3 ⟨hk3, rfl, hp3⟩
          have K4 := hide (K3.out.trans hk3)
          have P3 := hide hp3
          clear c3 hk3 hp3
          go_wp2
          go_ret
          refine ⟨K4.out, ?_⟩
          rw [HRES.out, HZ.out]
          exact ⟨rfl, P3.out⟩
        · have c3 := HC.out g' (at2 + 1) (ps ++ ys) _ (.ok (x2, r2)) (by omega) (by omega) R3.out HE3.out hr1
          obtain ⟨hrest, hrl⟩ := rest_lst hr1 (by omega)
          have hpp := (rd_reads hr1).parts
          rw [lst_len] at hpp
          have HZ := hide hz
          have HR2 := hide hr2
          clear hr1 hz HCASE hr2
          go_wp2_with fail
          refine c3.mono ?_
          rintro e w3 ⟨hk3, rfl, xs2, hxs2, hr3⟩
          have hxl : xs2.length = x2.length := by rw [← hxs2, List.length_map]
          have E4 := HE3.out.keep hk3
          have u1 := E4.c1
          have c4 := add_any hr3 (by rw [List.length_append]; omega) ⟨5, k, 0, ⟨#[]⟩, ⟨#[]⟩⟩
          simp only [] at c4
          have K4 := hide (K3.out.trans hk3)
          have HXS := hide hxs2
          clear c3 hk3 hxs2 hr3 E4 t1 t2
          go_wp2_with fail
          refine c4.mono ?_
          rintro e w4 ⟨rfl, hr4, hk4⟩
          have HL4 := hide (left_of hr4 toks.length)
          have HNEW : Hid (∃ (g at2 : Nat) (ys : List Pv) (z' : Res), g ≤ f ∧ at2 ≤ toks.length ∧ (ps ++ ys).length ≤ at2 ∧ RS B R tv toks at2 op (ps ++ ys) fa fc w4 ∧ Keep B R w w4 ∧ rd g (.loop n) op (lst toks at2) = some z' ∧ res = glue (ys.map ptV) z') := by
            refine ⟨g', toks.length - r2.length, ys ++ (xs2 ++ [⟨5, k, 0, ⟨#[]⟩, ⟨#[]⟩⟩]), z2, by omega, by omega, ?_, ?_, K4.out.trans hk4, by rw [← hrest]; exact HR2.out, ?_⟩
            · rw [List.length_append] at hpy ⊢
              rw [List.length_append, List.length_append]
              simp only [List.length_cons, List.length_nil]
              omega
            · rw [← List.append_assoc, ← List.append_assoc]
              exact hr4
            · rw [HRES.out, HZ.out, glue_glue, List.map_append, List.map_append, HXS.out]; rfl
          have HM : Hid (left R toks.length w4 < toks.length - at2) := by
            show _ < _
            rw [HL4.out]
            omega
          clear c4 hr4 hk4 hxl hpp hrest hrl
          go_wp2
          go_roundw
          case rel => exact HNEW.out
          case measure =>
            have h1 := HM.out
            have h2 := HLEFT.out
            omega
/-- the reader does what the plain reader does -/
theorem reader_ok {B R P1 P2 : Nat} {tv : Value} {toks : List Tv} (HFD : FieldOk B R tv toks) (hl : toks.length ≤ 3000000000000) : ∀ f, (∀ g, g ≤ f → RowOk B R P1 P2 tv toks g) ∧ UnaOk B R P1 P2 tv toks f ∧ PriOk B R P1 P2 tv toks f
  | 0 => by
    refine ⟨fun g hg => ?_, ?_, ?_⟩
    · obtain rfl : g = 0 := by omega
      intro n at_ op ps fa fc w res _ _ _ _ _ hr
      cases hr
    · intro at_ op ps fa fc w res _ _ _ _ hr
      cases hr
    · intro at_ op ps fa fc w res _ _ _ _ hr
      cases hr
  | f + 1 => by
    obtain ⟨h1, h2, h3⟩ := reader_ok HFD hl f
    refine ⟨fun g hg => ?_, una_ok h3 (top_ok h2) hl, pri_ok (h1 f (Nat.le_refl _)) HFD hl⟩
    rcases Nat.lt_or_ge g (f + 1) with h | h
    · exact h1 g (by omega)
    · obtain rfl : g = f + 1 := by omega
      exact row_ok h1 (top_ok h2) hl
end Go.Proofs.YtkicbmjjbnblfaaGreatDoor
namespace Go.Proofs.YtkicbmjjbnblfaaGreatDoor
open Go.RowKit
set_option maxRecDepth 100000 in
set_option maxHeartbeats 3200000 in
theorem field_ok {B R : Nat} {tv : Value} {toks : List Tv} (hl : toks.length ≤ 3000000000000) (hs : ∀ i, (tokAt toks i).s.size ≤ 140737488355000) : FieldOk B R tv toks := by
  intro at_ op ps fa fc w name hp h
  have c1 := next_any h (by omega)
  have hle := h.le
  have hhere := h.here
  have HH := hide h
  have hsz := hs at_
  have i3 : (at_ : Int) ≤ 3000000000000 := by omega
  have i4 : (0 : Int) ≤ (at_ : Int) := by omega
  clear h hs
  by_cases h1 : (tokAt toks at_).k = 1
  · have hlt : at_ < toks.length := by
      rcases Nat.lt_or_ge at_ toks.length with h | h
      · exact h
      · rw [tok_none h] at h1
        exact absurd h1 (by decide)
    have HLT := hide hlt
    have HK1 := hide h1
    have c2 := fun (W : World) (h : RS B R tv toks (at_ + 1) op ps fa fc W) => add_any h (by omega) ⟨4, 0, 0, name, (tokAt toks at_).s⟩
    have HC : Hid (∀ (e : Ending) (w' : World), (e = .returned (.bool true) ∧ Keep B R w w' ∧ RS B R tv toks (at_ + 1) op (ps ++ [⟨4, 0, 0, name, (tokAt toks at_).s⟩]) fa fc w') → Keep B R w w' ∧ ((at_ < toks.length ∧ (tokAt toks at_).k = 1 ∧ e = .returned (.bool true) ∧ RS B R tv toks (at_ + 1) op (ps ++ [⟨4, 0, 0, name, (tokAt toks at_).s⟩]) fa fc w') ∨ (¬ (at_ < toks.length ∧ (tokAt toks at_).k = 1) ∧ e = .returned (.bool false) ∧ RS B R tv toks at_ op ps (at_ : Int) 60 w'))) := fun e w' h => ⟨h.2.1, .inl ⟨HLT.out, HK1.out, h.1, h.2.2⟩⟩
    suffices hsuf : Calls Tryz.prog 122 #[.pointer (some ⟨R, 0, none⟩), .string name] w fun e w' => e = .returned (.bool true) ∧ Keep B R w w' ∧ RS B R tv toks (at_ + 1) op (ps ++ [⟨4, 0, 0, name, (tokAt toks at_).s⟩]) fa fc w' from hsuf.mono HC.out
    clear HC hlt
    obtain ⟨X, hX⟩ : ∃ X, X = tokAt toks at_ := ⟨_, rfl⟩
    rw [← hX] at c1 c2 h1 hsz ⊢
    clear hX HK1
    obtain ⟨xk, xs, xn, xt, xa⟩ := X
    simp only [] at h1 hsz
    subst h1
    unfold tvA at c1
    simp only [] at c1 c2 ⊢
    have c4 := fun W => sclone_any xs hsz W
    clear hsz
    go_enter Tryz.func122, Tryz.ntmps122
    go_wp2_with fail
    refine c1.mono ?_
    rintro e w1 ⟨rfl, hb1⟩
    have b1 := hb1.alloc hb1.size (.cells #[.int .i64 1, .string xs, .int .i64 xn, .int .i64 xt, .int .i64 xa] 54)
    have r1 := HH.out.below b1
    obtain ⟨f1, _, f3⟩ := r1.cells
    obtain ⟨r2, k2⟩ := r1.step HLT.out
    have c3 := c4 ((w1.alloc (.cells #[.int .i64 1, .string xs, .int .i64 xn, .int .i64 xt, .int .i64 xa] 54)).setCell ⟨R, 1, none⟩ (.int .i64 ((at_ : Int) + 1)))
    have hRw : R < w1.heap.size := by have h1 := HH.out.hB; have h2 := hb1.size; omega
    have q1 : ((w1.alloc (.cells #[.int .i64 1, .string xs, .int .i64 xn, .int .i64 xt, .int .i64 xa] 54)).setCell ⟨R, 1, none⟩ (.int .i64 ((at_ : Int) + 1))).cell? ⟨w1.heap.size, 1, none⟩ = some (.string xs) := by
      rw [World.cell?_setCell_other _ _ _ _ (fun x => by injection x with x1 _ _; omega), Lib.cell_of_heap (heap_alloc_new w1 _)]; rfl
    have K1 := hide ((Keep.of_below (R := R) b1 hle).trans k2)
    have RR2 := hide r2
    have hle2 := r2.le
    clear c1 c4 hb1 b1 r1 r2 k2
    clear hRw
    go_wp2_with fail
    refine c3.mono ?_
    rintro e w2 ⟨rfl, hb2⟩
    have K2 := hide (K1.out.trans (Keep.of_below (R := R) hb2 hle2))
    have c5 := c2 _ (RR2.out.below hb2)
    clear c3 c2 hb2
    go_wp2_with fail
    refine c5.mono ?_
    rintro e w3 ⟨rfl, hr3, hk3⟩
    have R3 := hide hr3
    have K3 := hide (K2.out.trans hk3)
    clear c5 hr3 hk3
    go_wp2
    go_ret
    exact ⟨rfl, K3.out, R3.out⟩
  · have HK1 := hide h1
    have HC : Hid (∀ (e : Ending) (w' : World), (e = .returned (.bool false) ∧ Keep B R w w' ∧ RS B R tv toks at_ op ps (at_ : Int) 60 w') → Keep B R w w' ∧ ((at_ < toks.length ∧ (tokAt toks at_).k = 1 ∧ e = .returned (.bool true) ∧ RS B R tv toks (at_ + 1) op (ps ++ [⟨4, 0, 0, name, (tokAt toks at_).s⟩]) fa fc w') ∨ (¬ (at_ < toks.length ∧ (tokAt toks at_).k = 1) ∧ e = .returned (.bool false) ∧ RS B R tv toks at_ op ps (at_ : Int) 60 w'))) := fun e w' h => ⟨h.2.1, .inr ⟨fun q => HK1.out q.2, h.1, h.2.2⟩⟩
    suffices hsuf : Calls Tryz.prog 122 #[.pointer (some ⟨R, 0, none⟩), .string name] w fun e w' => e = .returned (.bool false) ∧ Keep B R w w' ∧ RS B R tv toks at_ op ps (at_ : Int) 60 w' from hsuf.mono HC.out
    clear HC HK1
    obtain ⟨X, hX⟩ : ∃ X, X = tokAt toks at_ := ⟨_, rfl⟩
    rw [← hX] at c1 h1 hsz
    clear hX
    obtain ⟨xk, xs, xn, xt, xa⟩ := X
    simp only [] at h1 hsz
    have q1 : (xk == 1) = false := by rw [beq_eq_false_iff_ne]; exact h1
    unfold tvA at c1
    simp only [] at c1
    clear h1 hsz
    go_enter Tryz.func122, Tryz.ntmps122
    go_wp2_with fail
    refine c1.mono ?_
    rintro e w1 ⟨rfl, hb1⟩
    have b1 := hb1.alloc hb1.size (.cells #[.int .i64 xk, .string xs, .int .i64 xn, .int .i64 xt, .int .i64 xa] 54)
    have c3 := refuse_any (HH.out.below b1)
    have K1 := hide (Keep.of_below (R := R) b1 hle)
    clear c1 hb1 b1
    go_wp2_with fail
    refine c3.mono ?_
    rintro e w2 ⟨rfl, hr2, hk2⟩
    have R2 := hide hr2
    have K2 := hide (K1.out.trans hk2)
    clear c3 hr2 hk2
    go_wp2
    go_ret
    exact ⟨rfl, K2.out, R2.out⟩
end Go.Proofs.YtkicbmjjbnblfaaGreatDoor
namespace Go.Proofs.YtkicbmjjbnblfaaGreatDoor
open Go.RowKit
theorem alloc2_z (w : World) (A C : Obj) : ((w.alloc A).alloc C).heap[w.heap.size + 1]? = some C := by
  have := heap_alloc_new (w.alloc A) C
  rw [World.size_alloc] at this
  exact this
set_option maxRecDepth 100000 in
set_option maxHeartbeats 800000 in
theorem rowReader_any (R : Nat) (w : World) : Calls Tryz.prog 70 #[.pointer (some ⟨R, 0, none⟩)] w fun e w' => e = .returned (fvOf w.heap.size (w.heap.size + 1)) ∧ Below w.heap.size w w' ∧ w'.heap.size = w.heap.size + 2 ∧ w'.cell? ⟨w.heap.size, 0, none⟩ = some (.pointer (some ⟨R, 0, none⟩)) ∧ w'.cell? ⟨w.heap.size + 1, 0, none⟩ = some (fvOf w.heap.size (w.heap.size + 1)) := by
  have hst : (store ⟨w.heap.size + 1, 0, none⟩ (fvOf w.heap.size (w.heap.size + 1))).run Tryz.prog ((w.alloc (.cells #[.pointer (some ⟨R, 0, none⟩)] 108)).alloc (.cells #[.nilFunc] 103)) = .ok () (((w.alloc (.cells #[.pointer (some ⟨R, 0, none⟩)] 108)).alloc (.cells #[.nilFunc] 103)).setCell ⟨w.heap.size + 1, 0, none⟩ (fvOf w.heap.size (w.heap.size + 1))) := by
    rw [run_store _ _ _ _ _ rfl, Lib.cell_of_heap (alloc2_z w _ _), Lib.frozen_of_heap (alloc2_z w _ _) 0]
    rfl
  unfold fvOf at hst
  go_enter Tryz.func70, Tryz.ntmps70
  go_wp2
  go_ret
  refine ⟨rfl, ((Below.refl _ _).alloc (Nat.le_refl _) _).alloc (by simp) _, by simp, ?_, ?_⟩
  · rw [World.cell?_alloc_lt _ _ _ (by simp), Lib.cell_of_heap (heap_alloc_new w _)]; rfl
  · rw [Lib.cell_of_heap (alloc2_z w _ _)]; rfl
theorem own_base {w : World} {b b' e size n : Nat} {v : Value} {xs : List Value} (h : w.ownsRow b e size v n xs) (hb : b' ≤ b) : w.ownsRow b' e size v n xs :=
  ⟨h.1, h.2.imp id fun ⟨g, cap, cur, r1, r2, r⟩ => ⟨g, cap, cur, r1, Nat.le_trans hb r2, r⟩⟩
/-- what Parse answers -/
def ParsePost (toks : List Tv) (at_ : Nat) (w : World) (e : Ending) (w' : World) : Prop :=
  Below w.heap.size w w' ∧ match parse (lst toks at_) with
  | .ok (x, r) => ∃ pv xs, xs.map ptV = x ∧ e = .returned (.tuple #[pv, .int .i64 ((toks.length - r.length : Nat) : Int), .agg #[.int .i64 0, .int .i64 0]]) ∧ w'.ownsRow w.heap.size 39 5 pv xs.length (pvsC xs)
  | .error (k, c) => e = .returned (.tuple #[.slice none 0 0, .int .i64 0, .agg #[.int .i64 ((toks.length - k : Nat) : Int), .int .i64 c]])
def ended (l : List Tk) (res : Res) : Except (Nat × Int) (List Pt × List Tk) := match res with
  | .error e => .error e
  | .ok (x, r) => if 500 < x.length ∨ 24 < depth x then .error (l.length, 2) else .ok (x, r)
theorem parse_of {l : List Tk} {res : Res} (h : rd (fuel l) (.row 0) 0 l = some res) : parse l = ended l res := by
  unfold parse ended
  rw [h]
  cases res with
  | error e => rfl
  | ok p => obtain ⟨x, r⟩ := p; rfl
theorem Keep.down {B R : Nat} {a w w' : World} (h : Below a.heap.size a w) (hk : Keep B R w w') (hB : a.heap.size ≤ B) (hR : a.heap.size ≤ R) : Below a.heap.size a w' :=
  h.trans ⟨hk.os, hk.tape, hk.output, hk.size, fun k hk1 => hk.block k (by omega) (by omega)⟩
set_option maxRecDepth 100000 in
set_option maxHeartbeats 3200000 in
theorem parse_any (tv : Value) (toks : List Tv) (at_ : Nat) (w : World) (hat : at_ ≤ toks.length) (hl : toks.length ≤ 3000000000000) (hs : ∀ i, (tokAt toks i).s.size ≤ 140737488355000) (hL : Lst w tv toks) (hg : Glo w) : Calls Tryz.prog 52 #[tv, .int .i64 (at_ : Int)] w (ParsePost toks at_ w) := by
  obtain ⟨res, hres⟩ : ∃ res, rd (fuel (lst toks at_)) (.row 0) 0 (lst toks at_) = some res := by
    cases hq : rd (fuel (lst toks at_)) (.row 0) 0 (lst toks at_) with
    | none => exact absurd hq (rd_ends _ _ _ _ (by unfold fuel; simp only [rank]; omega))
    | some res => exact ⟨res, rfl⟩
  have hlt8 := hg.lt
  have HG := hide hg
  obtain ⟨ta, tb, toff, tcap, htv, hA, hT⟩ := hL
  have HPA := hide (parse_of hres)
  have HOK := hide ((reader_ok (P1 := w.heap.size + 2) (P2 := w.heap.size + 3) (field_ok (B := w.heap.size + 4) (R := w.heap.size + 1) (tv := tv) hl hs) hl (fuel (lst toks at_))).1 _ (Nat.le_refl _))
  have HRES := hide hres
  have HA := hide hA
  have HT := hide hT
  have HTV := hide htv
  have i1 : (at_ : Int) ≤ (toks.length : Int) := by omega
  have i0 : ¬ (at_ : Int) < 0 := by omega
  have i2 : ¬ (toks.length : Int) < (at_ : Int) := by omega
  obtain ⟨N, hN⟩ : ∃ N, N = toks.length := ⟨_, rfl⟩
  rw [← hN] at htv i1 i2
  have HN := hide hN
  have c1 := rowReader_any (w.heap.size + 1) ((w.alloc (.cells #[.int .i64 0, .int .i64 0] 80)).alloc (.cells #[tv, .int .i64 (at_ : Int), .int .i64 0, .slice none 0 0, .int .i64 0, .int .i64 0] 110))
  have hzz : ((w.alloc (.cells #[.int .i64 0, .int .i64 0] 80)).alloc (.cells #[tv, .int .i64 (at_ : Int), .int .i64 0, .slice none 0 0, .int .i64 0, .int .i64 0] 110)).heap.size = w.heap.size + 2 := by simp
  rw [hzz] at c1
  have B0 : Hid (Below w.heap.size w ((w.alloc (.cells #[.int .i64 0, .int .i64 0] 80)).alloc (.cells #[tv, .int .i64 (at_ : Int), .int .i64 0, .slice none 0 0, .int .i64 0, .int .i64 0] 110))) := ((Below.refl _ _).alloc (Nat.le_refl _) _).alloc (by simp) _
  have HF0 : Hid (((w.alloc (.cells #[.int .i64 0, .int .i64 0] 80)).alloc (.cells #[tv, .int .i64 (at_ : Int), .int .i64 0, .slice none 0 0, .int .i64 0, .int .i64 0] 110)).heap[w.heap.size]? = some (.cells #[.int .i64 0, .int .i64 0] 80)) := by
    show _ = _
    rw [((Below.refl (w.alloc (.cells #[.int .i64 0, .int .i64 0] 80)).heap.size (w.alloc (.cells #[.int .i64 0, .int .i64 0] 80))).alloc (Nat.le_refl _) _).block w.heap.size (by simp)]
    exact heap_alloc_new w _
  have HR0 : Hid (((w.alloc (.cells #[.int .i64 0, .int .i64 0] 80)).alloc (.cells #[tv, .int .i64 (at_ : Int), .int .i64 0, .slice none 0 0, .int .i64 0, .int .i64 0] 110)).heap[w.heap.size + 1]? = some (.cells #[tv, .int .i64 (at_ : Int), .int .i64 0, .slice none 0 0, .int .i64 0, .int .i64 0] 110)) := alloc2_z w _ _
  have HW0 : Hid (∀ w1 : World, Below (w.heap.size + 2) ((w.alloc (.cells #[.int .i64 0, .int .i64 0] 80)).alloc (.cells #[tv, .int .i64 (at_ : Int), .int .i64 0, .slice none 0 0, .int .i64 0, .int .i64 0] 110)) w1 → w1.heap.size = w.heap.size + 2 + 2 → w1.cell? ⟨w.heap.size + 2, 0, none⟩ = some (.pointer (some ⟨w.heap.size + 1, 0, none⟩)) → w1.cell? ⟨w.heap.size + 2 + 1, 0, none⟩ = some (fvOf (w.heap.size + 2) (w.heap.size + 2 + 1)) → Below w.heap.size w w1 ∧ w1.heap[w.heap.size]? = some (.cells #[.int .i64 0, .int .i64 0] 80) ∧ RS (w.heap.size + 4) (w.heap.size + 1) tv toks at_ 0 [] 0 0 w1 ∧ Env (w.heap.size + 4) (w.heap.size + 1) (w.heap.size + 2) (w.heap.size + 3) w1) := by
    intro w1 hb1 hz1 hc1 hc2
    have B1 : Below w.heap.size w w1 := B0.out.trans (hb1.mono (by omega))
    refine ⟨B1, by rw [hb1.block _ (by omega)]; exact HF0.out, ⟨by omega, by omega, hat, ⟨.slice none 0 0, by rw [hb1.block _ (by omega)]; exact HR0.out, World.ownsRow_nil _ _ _ _⟩, ⟨ta, tb, toff, tcap, by rw [HTV.out], fun h0 => ⟨by have := (HA.out h0).1; omega, by have := (HA.out h0).1; omega, (HA.out h0).2⟩, fun i x hx => ?_⟩⟩, ⟨HG.out.below B1 HG.out.lt, hc1, hc2, by omega, by omega, by omega, by omega, by omega, by omega⟩⟩
    have hlt := (HA.out (by have := (List.getElem?_eq_some_iff.1 hx).1; omega)).1
    obtain ⟨h1, h2, h3, h4, h5⟩ := HT.out i x hx
    exact ⟨(B1.cell (p := ⟨tb, _, none⟩) hlt).trans h1, (B1.cell (p := ⟨tb, _, none⟩) hlt).trans h2, (B1.cell (p := ⟨tb, _, none⟩) hlt).trans h3, (B1.cell (p := ⟨tb, _, none⟩) hlt).trans h4, (B1.cell (p := ⟨tb, _, none⟩) hlt).trans h5⟩
  clear hzz B0 HF0 HR0 HG HTV HA HT
  subst htv
  have HLEN := hide hl
  clear hg hres hA hT hN hs hl
  go_enter Tryz.func52, Tryz.ntmps52
  go_wp2_with fail
  refine c1.mono ?_
  rintro e w1 ⟨rfl, hb1, hz1, hc1, hc2⟩
  obtain ⟨b1, f1, rs1, en1⟩ := HW0.out w1 hb1 hz1 hc1 hc2
  have c2 := HOK.out 0 at_ 0 [] 0 0 w1 res (by omega) (by omega) (Nat.zero_le _) rs1 en1 HRES.out
  have B1 := hide b1
  have F1 := hide f1
  have hR1 := rs1.le
  clear c1 hb1 hz1 hc1 hc2 HW0 HOK b1 f1 rs1 en1
  unfold fvOf
  go_wp2_with fail
  refine c2.mono ?_
  rintro e w2 ⟨hk2, hp2⟩
  have B2 := hide (Keep.down B1.out hk2 (by omega) (by omega))
  have F2 : Hid (w2.heap[w.heap.size]? = some (.cells #[.int .i64 0, .int .i64 0] 80)) := by
    show _ = _
    rw [hk2.block _ (by omega) (by omega)]
    exact F1.out
  clear c2 hk2 B1 F1
  cases res with
  | error z =>
    obtain ⟨k, c⟩ := z
    simp only [] at hp2
    unfold ended at HPA
    simp only [] at HPA
    obtain ⟨rfl, at2, op2, ps2, hr2⟩ := hp2
    obtain ⟨pv, hrow, _⟩ := hr2.row
    have d4 : w2.cell? ⟨w.heap.size + 1, 4, none⟩ = some (.int .i64 ((toks.length - k : Nat) : Int)) := by rw [Lib.cell_of_heap hrow]; rfl
    have d5 : w2.cell? ⟨w.heap.size + 1, 5, none⟩ = some (.int .i64 c) := by rw [Lib.cell_of_heap hrow]; rfl
    have k0 : w2.cell? ⟨w.heap.size, 0, none⟩ = some (.int .i64 0) := by rw [Lib.cell_of_heap F2.out]; rfl
    have k1 : w2.cell? ⟨w.heap.size, 1, none⟩ = some (.int .i64 0) := by rw [Lib.cell_of_heap F2.out]; rfl
    have z0 : ∀ j, w2.frozen? ⟨w.heap.size, j, none⟩ = false := fun j => Lib.frozen_of_heap F2.out j
    clear hrow hr2
    go_wp2
    go_region_with (fail)
    all_goals
      go_wp2
      refine bodyPost_ret (v := .tuple #[.slice none 0 0, .int .i64 0, .agg #[.int .i64 ((toks.length - k : Nat) : Int), .int .i64 c]]) ?_ rfl ⟨?_, ?_⟩
      · simp [results, Tryz.results52, go_sem, k0, k1]
      · exact ((B2.out.setCell (p := ⟨w.heap.size, 0, none⟩) (Nat.le_refl _) _).setCell (p := ⟨w.heap.size, 1, none⟩) (Nat.le_refl _) _).drew
      · rw [HPA.out]
  | ok z =>
    obtain ⟨x, r⟩ := z
    simp only [] at hp2
    unfold ended at HPA
    simp only [] at HPA
    obtain ⟨rfl, xs, hxs, hr2⟩ := hp2
    obtain ⟨pv, hrow, hown⟩ := hr2.row
    rw [List.nil_append] at hown
    have hxl : xs.length = x.length := by rw [← hxs, List.length_map]
    have hpp := (rd_reads HRES.out).parts
    rw [lst_len] at hpp
    obtain ⟨pa, pcap, hpv, hpc⟩ := own_form3 hown
    have c3 := depthOf_any pv xs w2 (PLst.of_owns hown) (by have := HLEN.out; omega)
    have HDL := hide (depth_le_len x)
    rw [hxs] at c3
    have d1 : w2.cell? ⟨w.heap.size + 1, 1, none⟩ = some (.int .i64 ((toks.length - r.length : Nat) : Int)) := by rw [Lib.cell_of_heap hrow]; rfl
    have d3 : w2.cell? ⟨w.heap.size + 1, 3, none⟩ = some pv := by rw [Lib.cell_of_heap hrow]; rfl
    have HROW := hide hrow
    have HOWN := hide hown
    have HXS := hide hxs
    have n1 : xs.length ≤ 3000000000000 := by have := HLEN.out; omega
    obtain ⟨M, hM⟩ : ∃ M, M = xs.length := ⟨_, rfl⟩
    rw [← hM] at hpv n1 hxl hpc
    have HM := hide hM
    subst hpv
    obtain ⟨dd, hdd⟩ : ∃ dd, dd = depth x := ⟨_, rfl⟩
    rw [← hdd] at c3 HDL HPA
    have d9 : dd ≤ 3000000000000 := by have := HDL.out; omega
    have m1 : (M : Int) ≤ 3000000000000 := by omega
    have m2 : (dd : Int) ≤ 3000000000000 := by omega
    rw [← hxl] at HPA
    clear hrow hown hr2 hxs hpp hM hdd hxl HDL
    go_wp2_with fail
    refine c3.mono ?_
    rintro e w3 ⟨rfl, hb3⟩
    have hR2 : w.heap.size + 1 < w2.heap.size := lt_of_heap HROW.out
    have B3 := hide (B2.out.trans (hb3.mono B2.out.size))
    have F3 : Hid (w3.heap[w.heap.size]? = some (.cells #[.int .i64 0, .int .i64 0] 80)) := by
      show _ = _
      rw [hb3.block _ (by omega)]
      exact F2.out
    have e1 : w3.cell? ⟨w.heap.size + 1, 1, none⟩ = some (.int .i64 ((toks.length - r.length : Nat) : Int)) := (hb3.cell (p := ⟨w.heap.size + 1, 1, none⟩) hR2).trans d1
    have e3 : w3.cell? ⟨w.heap.size + 1, 3, none⟩ = some (.slice pa M pcap) := (hb3.cell (p := ⟨w.heap.size + 1, 3, none⟩) hR2).trans d3
    have k0 : w3.cell? ⟨w.heap.size, 0, none⟩ = some (.int .i64 0) := by rw [Lib.cell_of_heap F3.out]; rfl
    have k1 : w3.cell? ⟨w.heap.size, 1, none⟩ = some (.int .i64 0) := by rw [Lib.cell_of_heap F3.out]; rfl
    have z0 : ∀ j, w3.frozen? ⟨w.heap.size, j, none⟩ = false := fun j => Lib.frozen_of_heap F3.out j
    have O3 := hide (own_on HOWN.out hb3)
    clear c3 hb3 d1 d3 F2 HROW HOWN B2
    by_cases hbad : 500 < M ∨ 24 < dd
    · have HP2 : Hid (parse (lst toks at_) = .error ((lst toks at_).length, 2)) := by
        show _ = _
        rw [HPA.out, if_pos hbad]
      have HAT : Hid (((toks.length - (lst toks at_).length : Nat) : Int) = (at_ : Int)) := by
        show _ = _
        rw [lst_len]; omega
      clear HPA
      rcases Nat.lt_or_ge 500 M with h5 | h5
      · have i5 : (500 : Int) < (M : Int) := by omega
        clear hbad
        go_wp2
        refine bodyPost_ret (v := .tuple #[.slice none 0 0, .int .i64 0, .agg #[.int .i64 (at_ : Int), .int .i64 2]]) ?_ rfl ⟨?_, ?_⟩
        · simp [results, Tryz.results52, go_sem, k0, k1]
        · exact (B3.out.setCell (p := ⟨w.heap.size, 0, none⟩) (Nat.le_refl _) _).setCell (p := ⟨w.heap.size, 1, none⟩) (Nat.le_refl _) _
        · rw [HP2.out]
          simp only []
          rw [HAT.out]
      · have i5 : ¬ (500 : Int) < (M : Int) := by omega
        have i6 : (24 : Int) < (dd : Int) := by omega
        clear hbad
        go_wp2
        refine bodyPost_ret (v := .tuple #[.slice none 0 0, .int .i64 0, .agg #[.int .i64 (at_ : Int), .int .i64 2]]) ?_ rfl ⟨?_, ?_⟩
        · simp [results, Tryz.results52, go_sem, k0, k1]
        · exact (B3.out.setCell (p := ⟨w.heap.size, 0, none⟩) (Nat.le_refl _) _).setCell (p := ⟨w.heap.size, 1, none⟩) (Nat.le_refl _) _
        · rw [HP2.out]
          simp only []
          rw [HAT.out]
    · have HP2 : Hid (parse (lst toks at_) = .ok (x, r)) := by
        show _ = _
        rw [HPA.out, if_neg hbad]
      have i5 : ¬ (500 : Int) < (M : Int) := by omega
      have i6 : ¬ (24 : Int) < (dd : Int) := by omega
      clear HPA hbad
      go_wp2
      go_region_with (fail)
      all_goals
        go_wp2
        refine bodyPost_ret (v := .tuple #[.slice pa M pcap, .int .i64 ((toks.length - r.length : Nat) : Int), .agg #[.int .i64 0, .int .i64 0]]) ?_ rfl ⟨?_, ?_⟩
        · simp [results, Tryz.results52, go_sem, k0, k1]
        · exact ((B3.out.setCell (p := ⟨w.heap.size, 0, none⟩) (Nat.le_refl _) _).setCell (p := ⟨w.heap.size, 1, none⟩) (Nat.le_refl _) _).drew
        · rw [HP2.out]
          refine ⟨_, xs, HXS.out, rfl, ?_⟩
          have o4 := O3.out
          rw [← HM.out] at o4 ⊢
          exact own_base (ownsRow_setCell_below (ownsRow_setCell_below o4 (a := ⟨w.heap.size, 0, none⟩) (by show w.heap.size < w.heap.size + 4; omega) _) (a := ⟨w.heap.size, 1, none⟩) (by show w.heap.size < w.heap.size + 4; omega) _) (by omega)
end Go.Proofs.YtkicbmjjbnblfaaGreatDoor
