/- Shown parts, plain: their tokens are short and few, and read as just these; what an error's code is. -/
import Derived.Test.YtkicbmjjbnblfaaDoorTokP
import Derived.Test.YtkicbmjjbnblfaaDoorDepP
namespace Go.Proofs.YtkicbmjjbnblfaaDoor
theorem depths_flat : ∀ (e : Ex), well e → ∀ st, depths (flat e) st = some (dep e :: st)
  | .leaf p, hw, st => by
    show depths [p] st = _
    unfold depths
    rw [if_pos hw.1]
    rfl
  | .one p e, hw, st => by
    show depths (flat e ++ [p]) st = _
    rw [depths_app, depths_flat e hw.2.2]
    show depths [p] (dep e :: st) = _
    unfold depths
    rw [if_neg (by rw [hw.1]; decide), if_pos hw.1]
    rfl
  | .two p a b, hw, st => by
    show depths (flat a ++ (flat b ++ [p])) st = _
    rw [depths_app, depths_flat a hw.2.2.1]
    show depths (flat b ++ [p]) (dep a :: st) = _
    rw [depths_app, depths_flat b hw.2.2.2]
    show depths [p] (dep b :: dep a :: st) = _
    unfold depths
    rw [if_neg (by rw [hw.1]; decide), if_neg (by rw [hw.1]; decide)]
    rfl
theorem depth_flat {e : Ex} (hw : well e) : depth (flat e) = dep e := by
  unfold depth
  rw [depths_flat e hw []]
theorem parse_shown {e : Ex} (hw : well e) (h24 : dep e ≤ 24) (h500 : (flat e).length ≤ 500) : parse (showE e false) = .ok (flat e, []) := by
  have hr := (shown hw).2 0 [] stops_nil (by omega)
  rw [List.append_nil] at hr
  have hq := reads_rd hr (fuel (showE e false)) (by simp only [fuel, rank]; omega)
  unfold parse
  rw [hq]
  simp only []
  rw [if_neg (by rw [depth_flat hw]; omega)]
theorem brk_len (i : Bool) (l : List Tk) : (brk i l).length ≤ l.length + 2 := by
  unfold brk
  split
  · simp
  · omega
theorem show_len : ∀ (e : Ex) (i : Bool), (showE e i).length ≤ 3 * (flat e).length
  | .leaf p, i => by
    unfold showE flat
    split
    · split <;> simp
    · split <;> simp
  | .one p e, i => by
    have h1 := show_len e false
    have h2 := show_len e true
    unfold showE flat
    rw [List.length_append]
    split
    · simp; omega
    · split
      · simp; omega
      · have := brk_len i (opTok p.n :: showE e true)
        rw [List.length_cons] at this
        simp; omega
  | .two p a b, i => by
    have h1 := show_len a true
    have h2 := show_len b true
    have := brk_len i (showE a true ++ opTok p.n :: showE b true)
    rw [List.length_append, List.length_cons] at this
    unfold showE flat
    rw [List.length_append, List.length_append]
    simp; omega
theorem op_short (n : Int) : (opTok n).s.length ≤ 24 := by
  have key : ∀ (c : Prop) [Decidable c] (a b : Tk), a.s.length ≤ 24 → b.s.length ≤ 24 → (if c then a else b).s.length ≤ 24 := fun c _ a b h1 h2 => by split <;> assumption
  unfold opTok
  repeat refine key _ _ _ (by decide) ?_
  decide
theorem toW_short (t : Int) : (toW t).length ≤ 24 := by
  unfold toW
  repeat' split
  all_goals decide
theorem word_short {s : Bs} (h : wordB s = true) : s.length ≤ 24 := by
  unfold wordB at h
  cases s with
  | nil => simp
  | cons c r =>
    simp only [Bool.and_eq_true, decide_eq_true_eq] at h
    exact h.1
theorem name_short {s : Bs} (h : nameB s = true) : s.length ≤ 24 := by
  unfold nameB at h
  rw [Bool.and_eq_true] at h
  exact word_short h.2
theorem may_short {p : Pt} (h : mayP p = true) : p.s.length ≤ 24 ∧ p.f.length ≤ 24 := by
  unfold mayP at h
  split at h
  · simp only [Bool.and_eq_true, decide_eq_true_eq] at h
    rw [h.1, h.2.1]; decide
  · split at h
    · simp only [Bool.and_eq_true, decide_eq_true_eq] at h
      rw [h.1]; exact ⟨name_short h.2.2.2, by decide⟩
    · split at h
      · simp only [Bool.and_eq_true, decide_eq_true_eq] at h
        exact ⟨name_short h.2.2.1, word_short h.2.2.2⟩
      · split at h
        · simp only [Bool.and_eq_true, decide_eq_true_eq] at h
          rw [h.1, h.2.1]; decide
        · split at h
          · simp only [Bool.and_eq_true, decide_eq_true_eq] at h
            rw [h.1, h.2.1]; decide
          · cases h
theorem brk_short {i : Bool} {l : List Tk} (h : ∀ t ∈ l, t.s.length ≤ 24) : ∀ t ∈ brk i l, t.s.length ≤ 24 := by
  unfold brk
  split
  · intro t ht
    rcases List.mem_cons.1 ht with rfl | ht
    · decide
    · rcases List.mem_append.1 ht with ht | ht
      · exact h t ht
      · rw [List.mem_singleton.1 ht]; decide
  · exact h
theorem show_short : ∀ (e : Ex) (i : Bool), well e → ∀ t ∈ showE e i, t.s.length ≤ 24
  | .leaf p, i, hw => by
    have hm := may_short hw.2
    intro t ht
    unfold showE at ht
    split at ht
    · split at ht
      · rw [List.mem_singleton.1 ht]
        show (if p.n = 1 then truB else falB).length ≤ 24
        split <;> decide
      · rw [List.mem_singleton.1 ht]
        show ([] : Bs).length ≤ 24
        decide
    · split at ht
      · rw [List.mem_singleton.1 ht]; exact hm.1
      · simp only [List.mem_cons, List.not_mem_nil, or_false] at ht
        rcases ht with rfl | rfl | rfl
        · exact hm.1
        · decide
        · exact hm.2
  | .one p e, i, hw => by
    have hm := may_short hw.2.1
    have h1 := show_short e false hw.2.2
    have h2 := show_short e true hw.2.2
    intro t ht
    unfold showE at ht
    split at ht
    · simp only [List.mem_cons, List.mem_append, List.not_mem_nil, or_false] at ht
      rcases ht with rfl | rfl | ht | rfl
      · exact hm.1
      · decide
      · exact h1 t ht
      · decide
    · split at ht
      · simp only [List.mem_cons, List.mem_append, List.not_mem_nil, or_false] at ht
        rcases ht with rfl | rfl | ht | rfl
        · exact toW_short _
        · decide
        · exact h1 t ht
        · decide
      · refine brk_short (fun t ht => ?_) t ht
        rcases List.mem_cons.1 ht with rfl | ht
        · exact op_short _
        · exact h2 t ht
  | .two p a b, i, hw => by
    have h1 := show_short a true hw.2.2.1
    have h2 := show_short b true hw.2.2.2
    intro t ht
    unfold showE at ht
    refine brk_short (fun t ht => ?_) t ht
    rcases List.mem_append.1 ht with ht | ht
    · exact h1 t ht
    · rcases List.mem_cons.1 ht with rfl | ht
      · exact op_short _
      · exact h2 t ht
def okC (z : Option Res) : Prop := ∀ k c, z = some (.error (k, c)) → c = 60 ∨ c = 2
theorem okC_60 (k : Nat) : okC (some (.error (k, 60))) := fun _ _ h => by injection h with h; injection h with h; injection h with h1 h2; exact .inl h2.symm
theorem okC_2 (k : Nat) : okC (some (.error (k, 2))) := fun _ _ h => by injection h with h; injection h with h; injection h with h1 h2; exact .inr h2.symm
theorem okC_none : okC none := fun _ _ h => by cases h
theorem okC_ok (z : List Pt × List Tk) : okC (some (.ok z)) := fun _ _ h => by injection h with h; cases h
theorem addP_code {p : Pt} {z : Option Res} (h : okC z) : okC (addP p z) := by
  unfold addP
  split
  · exact okC_ok _
  · exact h
theorem within_code {a b : Bs} {d : Nat} {l : List Tk} {go : List Tk → Option Res} (h : ∀ q, okC (go q)) : okC (within a b d l go) := by
  unfold within
  split
  · exact okC_60 _
  · split
    · split
      · exact okC_2 _
      · split
        · exact okC_none
        · rename_i q _ _ e he
          exact he ▸ h _
        · split
          · exact okC_60 _
          · split
            · exact okC_ok _
            · exact okC_60 _
    · exact okC_60 _
theorem named_code {s : Bs} {q : List Tk} {br : Option Res} (h : okC br) : okC (named s q br) := by
  unfold named
  split
  · exact okC_ok _
  · split
    · exact addP_code h
    · split
      · split
        · exact okC_60 _
        · split
          · exact okC_ok _
          · exact okC_60 _
      · exact okC_ok _
theorem rd_code : ∀ (f : Nat) (m : Md) (d : Nat) (l : List Tk), okC (rd f m d l)
  | 0, _, _, _ => okC_none
  | f + 1, .row n, d, l => by
    unfold rd
    split
    · exact rd_code f _ _ _
    · split
      · split
        · exact okC_ok _
        · exact rd_code f _ _ _
      · exact rd_code f _ _ _
  | f + 1, .loop n, d, l => by
    unfold rd
    split
    · exact okC_ok _
    · split
      · exact okC_ok _
      · split
        · split
          · exact okC_ok _
          · exact rd_code f _ _ _
        · exact rd_code f _ _ _
  | f + 1, .una, d, l => by
    unfold rd
    split
    · exact rd_code f _ _ _
    · split
      · exact rd_code f _ _ _
      · split
        · exact okC_2 _
        · exact addP_code (rd_code f _ _ _)
  | f + 1, .pri, d, l => by
    unfold rd
    split
    · exact okC_60 _
    · split
      · exact okC_ok _
      · split
        · exact okC_ok _
        · split
          · exact okC_ok _
          · split
            · exact addP_code (within_code fun q => rd_code f _ _ _)
            · split
              · exact named_code (within_code fun q => rd_code f _ _ _)
              · exact within_code fun q => rd_code f _ _ _
theorem parse_code {l : List Tk} {k : Nat} {c : Int} (h : parse l = .error (k, c)) : c ≠ 0 := by
  unfold parse at h
  split at h
  · injection h with h; injection h with h1 h2; rw [← h2]; decide
  · rename_i e he
    injection h with h
    subst h
    rcases rd_code _ _ _ _ _ _ he with h | h <;> rw [h] <;> decide
  · split at h
    · injection h with h; injection h with h1 h2; rw [← h2]; decide
    · cases h
theorem parse_len {l : List Tk} {x : List Pt} {r : List Tk} (h : parse l = .ok (x, r)) : x.length ≤ 500 := by
  unfold parse at h
  split at h
  · cases h
  · cases h
  · split at h
    · cases h
    · injection h with h
      injection h with h1 h2
      subst h1
      omega
theorem check_two {x : List Pt} (h : x.length ≤ 500) : checkP x = 0 ∨ checkP x = 60 := by
  unfold checkP
  rw [if_neg (by omega)]
  split
  · exact .inr rfl
  · split
    · exact .inr rfl
    · exact .inl rfl
end Go.Proofs.YtkicbmjjbnblfaaDoor
