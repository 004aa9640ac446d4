/- The program's own ways of reading numbers and times, as plain functions, against the document's. | Small contracts over bytes: letters and digits, the program's and the document's; digits of a base; what goes on behind a number. | The contracts of the program's digitOf, goesOn, signed, digits and number, and of the document's worth. -/
import Derived.Test.YtldjiieckddhkaaGreatDoorMg0
import Derived.Test.YtldjiieckddhkaaGreatDoorProg
import Derived.Deep.QuietTactic
import Derived.BigQuiet
namespace Go.Proofs.YtldjiieckddhkaaGreatDoor
def beyond : Nat := 4294967296
/-- the program's digits: what they make, at most beyond, and what stands behind; p: not the first byte -/
def pd (base : Nat) : Bool → Nat → Bs → Nat × Bs
  | _, n, [] => (n, [])
  | p, n, c :: r =>
    if worth c < base then pd base true (min (n * base + worth c) 4294967296) r
    else if p = true ∧ c = 95 ∧ headW base r = true then pd base true n r
    else (n, c :: r)
def goesOn : Bs → Bool
  | [] => false
  | c :: _ => isDig c || decide (c = 95)
theorem pd_ge {base : Nat} (hb : 1 ≤ base) : ∀ (l : Bs) (p : Bool) (n : Nat), n ≤ 4294967296 → n ≤ (pd base p n l).1 ∧ (pd base p n l).1 ≤ 4294967296
  | [], p, n, h => ⟨Nat.le_refl _, h⟩
  | c :: r, p, n, h => by
    unfold pd
    split
    · have h1 : n ≤ n * base := Nat.le_mul_of_pos_right n hb
      have := pd_ge hb r true (min (n * base + worth c) 4294967296) (by omega)
      omega
    · split
      · exact pd_ge hb r true n h
      · exact ⟨Nat.le_refl _, h⟩
theorem pd_suf (base : Nat) : ∀ (l : Bs) (p : Bool) (n : Nat), ∃ k, k ≤ l.length ∧ (pd base p n l).2 = l.drop k
  | [], p, n => ⟨0, Nat.le_refl _, rfl⟩
  | c :: r, p, n => by
    unfold pd
    split
    · obtain ⟨k, hk, e⟩ := pd_suf base r true (min (n * base + worth c) 4294967296)
      exact ⟨k + 1, by simp; omega, e⟩
    · split
      · obtain ⟨k, hk, e⟩ := pd_suf base r true n
        exact ⟨k + 1, by simp; omega, e⟩
      · exact ⟨0, Nat.zero_le _, rfl⟩
theorem pd_len (base : Nat) (l : Bs) (p : Bool) (n : Nat) : (pd base p n l).2.length ≤ l.length := by
  obtain ⟨k, hk, e⟩ := pd_suf base l p n
  rw [e, List.length_drop]; omega
theorem digs_pd {base most : Nat} (hb : 1 ≤ base) (hm : most < 4294967296) : ∀ (f : Nat) (l : Bs) (n : Nat), l.length ≤ f → n ≤ most →
    digs base most true n l = if (pd base true n l).1 ≤ most ∧ goesOn (pd base true n l).2 = false then some (pd base true n l) else none := by
  intro f
  induction f with
  | zero =>
    intro l n hl hn
    match l, hl with
    | [], _ => simp [digs, pd, goesOn, hn]
  | succ f ih =>
    intro l n hl hn
    match l, hl with
    | [], _ => simp [digs, pd, goesOn, hn]
    | c :: r, hl =>
      have hr : r.length ≤ f := by simp at hl; omega
      have step : ∀ (c : UInt8) (r : Bs), r.length ≤ f → worth c < base → (if most < n * base + worth c then none else digs base most true (n * base + worth c) r) = if (pd base true n (c :: r)).1 ≤ most ∧ goesOn (pd base true n (c :: r)).2 = false then some (pd base true n (c :: r)) else none := by
        intro c r hr hc
        have e : pd base true n (c :: r) = pd base true (min (n * base + worth c) 4294967296) r := by rw [pd, if_pos hc]
        rw [e]
        by_cases h : most < n * base + worth c
        · rw [if_pos h]
          have := (pd_ge hb r true (min (n * base + worth c) 4294967296) (by omega)).1
          rw [if_neg (by omega)]
        · rw [if_neg h, Nat.min_eq_left (by omega)]
          exact ih r _ hr (by omega)
      rw [digs]
      by_cases hc : worth c < base
      · rw [if_pos hc]
        exact step c r hr hc
      · rw [if_neg hc]
        by_cases hu : c = 95 ∧ headW base r = true
        · rw [if_pos ⟨hu.1, rfl, hu.2⟩]
          match r, hr, hu with
          | d :: q, hr, hu =>
            have hd : worth d < base := by simpa [headW] using hu.2
            have e2 : pd base true n (c :: d :: q) = pd base true n (d :: q) := by
              rw [pd, if_neg hc, if_pos ⟨rfl, hu.1, hu.2⟩]
            rw [e2, digs, if_pos hd]
            exact step d q (by simp at hr; omega) hd
        · rw [if_neg (fun h => hu ⟨h.1, h.2.2⟩)]
          have e2 : pd base true n (c :: r) = (n, c :: r) := by
            rw [pd, if_neg hc, if_neg (fun h => hu ⟨h.2.1, h.2.2⟩)]
          rw [e2]
          by_cases hg : c = 95 ∨ isDig c = true
          · rw [if_pos rfl, if_pos hg, if_neg]
            rintro ⟨_, h⟩
            rcases hg with rfl | hg
            · simp [goesOn] at h
            · simp [goesOn, hg] at h
          · rw [if_pos rfl, if_neg hg, if_pos]
            refine ⟨hn, ?_⟩
            simp only [goesOn]
            rw [Bool.or_eq_false_iff]
            exact ⟨by simpa using fun h => hg (Or.inr h), decide_eq_false fun h => hg (Or.inl h)⟩
/-- the program's number -/
def okP (base : Nat) (l : Bs) : Bool := decide ((pd base false 0 l).2.length < l.length) && !(goesOn (pd base false 0 l).2)
theorem digs_num {base most : Nat} (hb : 1 ≤ base) (hb16 : base ≤ 16) (hm : most < 4294967296) (h15 : 15 ≤ most) (l : Bs) :
    digs base most false 0 l = if okP base l = true ∧ (pd base false 0 l).1 ≤ most then some (pd base false 0 l) else none := by
  unfold okP
  match l with
  | [] => simp [digs, pd]
  | c :: r =>
    rw [digs]
    by_cases hc : worth c < base
    · have e : pd base false 0 (c :: r) = pd base true (worth c) r := by
        rw [pd, if_pos hc, Nat.zero_mul, Nat.zero_add, Nat.min_eq_left (by omega)]
      have hlen : (pd base true (worth c) r).2.length < (c :: r).length := by
        have := pd_len base r true (worth c)
        simp; omega
      rw [if_pos hc, Nat.zero_mul, Nat.zero_add, if_neg (by omega), e, digs_pd hb hm r.length r (worth c) (Nat.le_refl _) (by omega), decide_eq_true hlen, Bool.true_and]
      by_cases h1 : (pd base true (worth c) r).1 ≤ most
      · by_cases h2 : goesOn (pd base true (worth c) r).2 = false
        · rw [if_pos ⟨h1, h2⟩, if_pos ⟨by rw [h2]; rfl, h1⟩]
        · rw [if_neg (fun h => h2 h.2), if_neg]
          rintro ⟨h, _⟩
          simp only [Bool.not_eq_true'] at h
          exact h2 h
      · rw [if_neg (fun h => h1 h.1), if_neg (fun h => h1 h.2)]
    · have e : pd base false 0 (c :: r) = (0, c :: r) := by
        rw [pd, if_neg hc, if_neg (by rintro ⟨h, _⟩; cases h)]
      rw [if_neg hc, if_neg (by rintro ⟨_, h, _⟩; cases h), if_neg (by decide), e, if_neg]
      rintro ⟨h, _⟩
      simp at h
/-! times -/
def cap10 : Nat → Bs → Nat × Bs
  | x, [] => (x, [])
  | x, c :: r => if isDig c then cap10 (min (x * 10 + (c.toNat - 48)) 4294967296) r else (x, c :: r)
def timeP : Nat → Nat → Nat → Bs → Option (Nat × Bs)
  | 0, _, _, _ => none
  | f + 1, lo, n, l =>
    match l with
    | [] => if lo = 0 then none else some (n, [])
    | c :: r =>
      if isDig c then
        match unitL (cap10 0 (c :: r)).2 with
        | none => none
        | some (u, r2) => if u < lo then none else timeP f (u + 1) (n + (cap10 0 (c :: r)).1 * unitW u) r2
      else if lo = 0 ∨ c = 95 then none else some (n, c :: r)
theorem cap10_run : ∀ (l : Bs) (x : Nat), x ≤ 4294967296 → (x ≤ (cap10 x l).1 ∧ (cap10 x l).1 ≤ 4294967296) ∧ (x ≤ 2147483648 → run10 x l = if (cap10 x l).1 ≤ 2147483648 then some (cap10 x l) else none)
  | [], x, h => ⟨⟨Nat.le_refl _, h⟩, fun h2 => by simp [run10, cap10, h2]⟩
  | c :: r, x, h => by
    unfold cap10 run10
    by_cases hd : isDig c = true
    · rw [if_pos hd, if_pos hd]
      have ih := cap10_run r (min (x * 10 + (c.toNat - 48)) 4294967296) (by omega)
      refine ⟨by omega, fun h2 => ?_⟩
      by_cases hb : 2147483648 < x * 10 + (c.toNat - 48)
      · rw [if_pos hb, if_neg (by have := ih.1; omega)]
      · rw [if_neg hb]
        have e : min (x * 10 + (c.toNat - 48)) 4294967296 = x * 10 + (c.toNat - 48) := by omega
        rw [e] at ih ⊢
        exact ih.2 (by omega)
    · rw [if_neg hd, if_neg hd]
      exact ⟨⟨Nat.le_refl _, h⟩, fun h2 => by rw [if_pos h2]⟩
theorem unitW_pos (u : Nat) : 1 ≤ unitW u ∧ unitW u ≤ 86400000 := by
  unfold unitW
  split
  · omega
  · split
    · omega
    · split
      · omega
      · split <;> omega
theorem timeP_ge : ∀ (f lo n : Nat) (l : Bs) (m : Nat) (r : Bs), timeP f lo n l = some (m, r) → n ≤ m
  | 0, lo, n, l, m, r, h => by cases h
  | f + 1, lo, n, l, m, r, h => by
    unfold timeP at h
    split at h
    · split at h
      · cases h
      · injection h with h; injection h with h1 h2; omega
    · split at h
      · split at h
        · cases h
        · split at h
          · cases h
          · have := timeP_ge f _ _ _ _ _ h
            omega
      · split at h
        · cases h
        · injection h with h; injection h with h1 h2; omega
theorem time_pd : ∀ (f lo n : Nat) (l : Bs), n < 2147483648 → timeL f lo n l = (match timeP f lo n l with | none => none | some (m, r) => if m < 2147483648 then some (m, r) else none)
  | 0, lo, n, l, h => rfl
  | f + 1, lo, n, l, h => by
    unfold timeL timeP
    match l with
    | [] =>
      simp only []
      by_cases h0 : lo = 0
      · simp [h0]
      · simp [h0, h]
    | c :: r =>
      simp only []
      by_cases hd : isDig c = true
      · rw [if_pos hd, if_pos hd]
        have hc := cap10_run (c :: r) 0 (by omega)
        have hr := hc.2 (by omega)
        have hpos := fun u => unitW_pos u
        rw [hr]
        generalize cap10 0 (c :: r) = z at *
        obtain ⟨x, r1⟩ := z
        by_cases hx : x ≤ 2147483648
        · rw [if_pos hx]
          simp only []
          cases hu : unitL r1 with
          | none => rfl
          | some y =>
            obtain ⟨u, r2⟩ := y
            simp only []
            by_cases hlo : u < lo
            · rw [if_pos (Or.inl hlo), if_pos hlo]
            · rw [if_neg hlo]
              by_cases hb : 2147483648 ≤ n + x * unitW u
              · rw [if_pos (Or.inr hb)]
                cases ht : timeP f (u + 1) (n + x * unitW u) r2 with
                | none => rfl
                | some q =>
                  obtain ⟨m, r3⟩ := q
                  have := timeP_ge _ _ _ _ _ _ ht
                  simp only []
                  rw [if_neg (by omega)]
              · rw [if_neg (by rintro (h | h) <;> omega)]
                exact time_pd f _ _ _ (by omega)
        · rw [if_neg hx]
          simp only []
          cases hu : unitL r1 with
          | none => rfl
          | some y =>
            obtain ⟨u, r2⟩ := y
            simp only []
            by_cases hlo : u < lo
            · rw [if_pos hlo]
            · rw [if_neg hlo]
              cases ht : timeP f (u + 1) (n + x * unitW u) r2 with
              | none => rfl
              | some q =>
                obtain ⟨m, r3⟩ := q
                have h1 := timeP_ge _ _ _ _ _ _ ht
                have h2 := (hpos u).1
                have h3 : x ≤ x * unitW u := Nat.le_mul_of_pos_right x h2
                simp only []
                rw [if_neg (by omega)]
      · rw [if_neg hd, if_neg hd]
        by_cases h0 : lo = 0 ∨ c = 95
        · rw [if_pos h0]
        · rw [if_neg h0]
          simp only []
          rw [if_pos h]
/-- the program's digits of a time's part: with no _ among them they are cap10's; with one no unit stands behind cap10's -/
theorem pd_cap : ∀ (l : Bs) (p : Bool) (x : Nat), (95 : UInt8) ∉ l.take (l.length - (pd 10 p x l).2.length) → pd 10 p x l = cap10 x l
  | [], p, x, h => rfl
  | c :: r, p, x, h => by
    have hw : ∀ c : UInt8, (decide (worth c < 10)) = isDig c := all8 (P := fun c => (decide (worth c < 10)) = isDig c) (by decide +kernel)
    have hv : ∀ c : UInt8, isDig c = true → worth c = c.toNat - 48 := fun c h => by unfold worth; rw [if_pos h]
    unfold pd at h ⊢
    unfold cap10
    by_cases hd : worth c < 10
    · have hc : isDig c = true := by rw [← hw]; exact decide_eq_true hd
      rw [if_pos hd] at h ⊢
      rw [if_pos hc, ← hv c hc]
      refine pd_cap r true _ fun hm => h ?_
      have hl := pd_len 10 r true (min (x * 10 + worth c) 4294967296)
      rw [List.length_cons, show r.length + 1 - (pd 10 true (min (x * 10 + worth c) 4294967296) r).2.length = (r.length - (pd 10 true (min (x * 10 + worth c) 4294967296) r).2.length) + 1 from by omega, List.take_succ_cons]
      exact List.mem_cons_of_mem _ hm
    · have hc : isDig c = false := by rw [← hw]; exact decide_eq_false hd
      rw [if_neg hd] at h ⊢
      by_cases hu : p = true ∧ c = 95 ∧ headW 10 r = true
      · rw [if_pos hu] at h
        exfalso
        apply h
        have hl := pd_len 10 r true x
        rw [List.length_cons, show r.length + 1 - (pd 10 true x r).2.length = (r.length - (pd 10 true x r).2.length) + 1 from by omega, List.take_succ_cons, hu.2.1]
        exact List.mem_cons_self
      · rw [if_neg hu, if_neg (by rw [hc]; decide)]
theorem pd_under : ∀ (l : Bs) (p : Bool) (x : Nat), (95 : UInt8) ∈ l.take (l.length - (pd 10 p x l).2.length) → ∃ r, (cap10 x l).2 = 95 :: r
  | [], p, x, h => by simp at h
  | c :: r, p, x, h => by
    have hw : ∀ c : UInt8, (decide (worth c < 10)) = isDig c := all8 (P := fun c => (decide (worth c < 10)) = isDig c) (by decide +kernel)
    have hv : ∀ c : UInt8, isDig c = true → worth c = c.toNat - 48 := fun c h => by unfold worth; rw [if_pos h]
    unfold pd at h
    unfold cap10
    by_cases hd : worth c < 10
    · have hc : isDig c = true := by rw [← hw]; exact decide_eq_true hd
      rw [if_pos hd] at h
      rw [if_pos hc, ← hv c hc]
      have hl := pd_len 10 r true (min (x * 10 + worth c) 4294967296)
      rw [List.length_cons, show r.length + 1 - (pd 10 true (min (x * 10 + worth c) 4294967296) r).2.length = (r.length - (pd 10 true (min (x * 10 + worth c) 4294967296) r).2.length) + 1 from by omega, List.take_succ_cons] at h
      refine pd_under r true _ ?_
      rcases List.mem_cons.1 h with h | h
      · subst h; exact absurd hc (by decide)
      · exact h
    · have hc : isDig c = false := by rw [← hw]; exact decide_eq_false hd
      rw [if_neg hd] at h
      rw [if_neg (by rw [hc]; decide)]
      by_cases hu : p = true ∧ c = 95 ∧ headW 10 r = true
      · exact ⟨r, by rw [hu.2.1]⟩
      · rw [if_neg hu] at h
        simp at h
end Go.Proofs.YtldjiieckddhkaaGreatDoor
namespace Go.Proofs.YtldjiieckddhkaaGreatDoor
open Go.RowKit
theorem hide {p : Prop} (h : p) : Hid p := h
theorem ret_bool {a b : Bool} (h : a = b) : Ending.returned (.bool a) = .returned (.bool b) := by rw [h]
theorem ret_int {k : IntKind} {a b : Int} (h : a = b) : Ending.returned (.int k a) = .returned (.int k b) := by rw [h]
theorem text_len (s : ByteArray) : s.data.toList.length = s.size := by rw [Array.length_toList]; rfl
theorem text_ext {a b : ByteArray} (h : a.data.toList = b.data.toList) : a = b := ByteArray.ext (Array.toList_inj.1 h)
theorem list_size (l : List UInt8) : (⟨l.toArray⟩ : ByteArray).size = l.length := by show l.toArray.size = _; simp
theorem of_list (t : ByteArray) (l : List UInt8) (h : t.data.toList = l) : t = ⟨l.toArray⟩ := text_ext (by rw [h])
theorem to_list (t : ByteArray) : t = ⟨t.data.toList.toArray⟩ := of_list _ _ rfl
theorem u8_le {a b : UInt8} : a ≤ b ↔ (a.toNat : Int) ≤ (b.toNat : Int) := by rw [UInt8.le_iff_toNat_le]; omega
theorem u8_eq {a b : UInt8} : a = b ↔ (a.toNat : Int) = (b.toNat : Int) := by rw [← UInt8.toNat_inj]; omega
theorem dig_int (c : UInt8) : isDig c = (decide ((48 : Int) ≤ (c.toNat : Int)) && decide ((c.toNat : Int) ≤ 57)) := by
  unfold isDig
  rw [Bool.eq_iff_iff]
  simp only [Bool.and_eq_true, decide_eq_true_eq, u8_le]
  exact Iff.rfl
theorem let_int (c : UInt8) : isLet c = (decide ((97 : Int) ≤ (c.toNat : Int)) && decide ((c.toNat : Int) ≤ 122) || (decide ((65 : Int) ≤ (c.toNat : Int)) && decide ((c.toNat : Int) ≤ 90) || decide ((c.toNat : Int) = 95))) := by
  unfold isLet
  rw [Bool.eq_iff_iff]
  simp only [Bool.and_eq_true, Bool.or_eq_true, decide_eq_true_eq, u8_le, u8_eq]
  exact Iff.rfl
theorem byte_lt (c : UInt8) : (c.toNat : Int) < 256 := by have := c.toNat_lt; omega
end Go.Proofs.YtldjiieckddhkaaGreatDoor
namespace Go.Proofs.YtldjiieckddhkaaGreatDoor
open Go.RowKit
theorem run_idx (s : ByteArray) (k : Nat) (c : UInt8) (h : s.data.toList[k]? = some c) (W : World) : (Instr.index 9 (.string s) (.int .i64 (k : Int))).run Tryz.prog W = .ok (.int .u8 (c.toNat : Int)) W := by
  have e : s[k]? = some c := by
    have hk : k < s.size := by rw [← text_len]; exact (List.getElem?_eq_some_iff.1 h).1
    rw [Array.getElem?_toList] at h
    have h' := (Array.getElem?_eq_some_iff.1 h).2
    simp [hk]; exact h'
  have hk : k < s.size := by rw [← text_len]; exact (List.getElem?_eq_some_iff.1 h).1
  simp only [Instr.index, asIntOf, Sem.run_bind, Sem.run_pure, Result.andThen_ok, run_underlying Tryz.underlying9]
  rw [if_pos (by omega), Int.toNat_natCast]
  simp [e]
theorem below_drawn {B : Nat} {a w : World} (h : Below B a w) (n : Nat) : Below B a (w.drewN n) := h.trans ⟨rfl, rfl, rfl, Nat.le_refl _, fun _ _ => rfl⟩
theorem drop_text (t : ByteArray) (n : Nat) : (t.extract n t.size).data.toList = t.data.toList.drop n := by
  rw [ByteArray.data_extract, Array.toList_extract, List.extract_eq_take_drop]
  apply List.take_of_length_le
  rw [List.length_drop, text_len]
  exact Nat.le_refl _
theorem mid_text (t : ByteArray) (a b : Nat) : (t.extract a b).data.toList = (t.data.toList.drop a).take (b - a) := by
  rw [ByteArray.data_extract, Array.toList_extract, List.extract_eq_take_drop]
theorem slice_from (s : ByteArray) (n : Nat) (h : n ≤ s.size) (W : World) : (Instr.slice 9 (.string s) (some (.int .i64 (n : Int))) none none).run Tryz.prog W = .ok (.string ⟨(s.data.toList.drop n).toArray⟩) W := by
  rw [run_slice_string_from_if _ _ _ _ _ Tryz.underlying9, if_pos ⟨by omega, by omega⟩, Int.toNat_natCast, of_list _ _ (drop_text s n)]
theorem slice_mid (s : ByteArray) (a b : Nat) (h : a ≤ b) (h2 : b ≤ s.size) (W : World) : (Instr.slice 9 (.string s) (some (.int .i64 (a : Int))) (some (.int .i64 (b : Int))) none).run Tryz.prog W = .ok (.string ⟨((s.data.toList.drop a).take (b - a)).toArray⟩) W := by
  rw [run_slice_string _ _ _ _ _ _ _ Tryz.underlying9 (by omega) (by omega) (by omega), Int.toNat_natCast, Int.toNat_natCast, of_list _ _ (mid_text s a b)]
theorem worth_int (c : UInt8) : ((worth c : Nat) : Int) = if isDig c = true then (c.toNat : Int) - 48 else if (97 : Int) ≤ (c.toNat : Int) ∧ (c.toNat : Int) ≤ 102 then (c.toNat : Int) - 87 else if (65 : Int) ≤ (c.toNat : Int) ∧ (c.toNat : Int) ≤ 70 then (c.toNat : Int) - 55 else 99 :=
  all8 (P := fun c => ((worth c : Nat) : Int) = if isDig c = true then (c.toNat : Int) - 48 else if (97 : Int) ≤ (c.toNat : Int) ∧ (c.toNat : Int) ≤ 102 then (c.toNat : Int) - 87 else if (65 : Int) ≤ (c.toNat : Int) ∧ (c.toNat : Int) ≤ 70 then (c.toNat : Int) - 55 else 99) (by decide +kernel) c
/-- a digit of a base, or -1 -/
def digI (base : Nat) (c : UInt8) : Int := if worth c < base then (worth c : Int) else -1
theorem digI_pos {base : Nat} {c : UInt8} (h : worth c < base) : digI base c = (worth c : Int) := by unfold digI; rw [if_pos h]
theorem digI_neg {base : Nat} {c : UInt8} (h : ¬ worth c < base) : digI base c = -1 := by unfold digI; rw [if_neg h]
theorem ne_empty (c : UInt8) (r : List UInt8) : (⟨(c :: r).toArray⟩ : ByteArray).toList.isEmpty = false := by
  rw [ByteArray.toList_eq]; rfl
end Go.Proofs.YtldjiieckddhkaaGreatDoor
