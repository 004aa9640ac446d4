/- Plain facts on lex.Show: what the program shows a list of tokens as, against the document's showing. -/
import Derived.Test.YtfcnbiikjopajaaDoorComW
import Derived.Test.YtfcnbiikjopajaaDoorBack
import Derived.Test.YtfcnbiikjopajaaDoorTLst
import Derived.Test.YtfcnbiikjopajaaDoorBldW
import Derived.Test.YtfcnbiikjopajaaDoorShelfB
namespace Go.Proofs.YtfcnbiikjopajaaDoor
open Go.RowKit
theorem up_chL (k : Nat) (h : k < 16) : upC (chL k) = chU k := by
  have : ∀ k : Fin 16, upC (chL k) = chU k := by decide +kernel
  exact this ⟨k, h⟩
theorem hex_same {m : Nat} (h1 : 2147483648 ≤ m) (h2 : m < 4294967296) : upL (repF chL 16 17 m) = hex8 m := by
  have e : repF chL 16 17 m = [chL (m / 268435456 % 16), chL (m / 16777216 % 16), chL (m / 1048576 % 16), chL (m / 65536 % 16), chL (m / 4096 % 16), chL (m / 256 % 16), chL (m / 16 % 16), chL (m % 16)] := by
    rw [repF, if_neg (by omega), repF, if_neg (by omega), repF, if_neg (by omega), repF, if_neg (by omega), repF, if_neg (by omega), repF, if_neg (by omega), repF, if_neg (by omega), repF, if_pos (by omega)]
    rw [show m / 16 / 16 = m / 256 from by omega, show m / 256 / 16 = m / 4096 from by omega, show m / 4096 / 16 = m / 65536 from by omega, show m / 65536 / 16 = m / 1048576 from by omega, show m / 1048576 / 16 = m / 16777216 from by omega, show m / 16777216 / 16 = m / 268435456 from by omega]
    rfl
  rw [e]
  have w := fun (k : Nat) => up_chL (k % 16) (Nat.mod_lt _ (by decide))
  show [upC _, upC _, upC _, upC _, upC _, upC _, upC _, upC _] = _
  rw [w, w, w, w, w, w, w, w]
  rfl
def shownK (t : Tk) : Bs := shownP t.kind t.s t.n t.ty
theorem showT_eq {t : Tk} {u : Bs} (h : showT t = some u) : u = shownK t := by
  obtain ⟨k, s, n, ty⟩ := t
  unfold showT at h
  simp only [] at h
  unfold shownK shownP
  simp only []
  split at h
  · next hk =>
    obtain ⟨rfl, rfl⟩ := hk
    rw [if_neg (by decide)]
    split at h
    · next h0 =>
      subst h0
      rw [if_pos rfl]
      split at h
      · next hn =>
        rw [if_pos hn]
        split at h
        · next hl =>
          injection h with h
          rw [← h, hexI, if_neg (by simp; omega)]
          have e : (n + 4294967296).natAbs = (n + 4294967296).toNat := by omega
          rw [e, hex_same (by omega) (by omega)]
        · cases h
      · next hn =>
        rw [if_neg hn]
        split at h
        · injection h with h
          rw [← h, signedL, if_neg hn]
        · cases h
    · next h0 =>
      rw [if_neg h0]
      split at h
      · next h4 =>
        subst h4
        rw [if_pos rfl]
        split at h
        · next hn =>
          injection h with h
          rw [← h, signedL, if_neg (by omega)]
          simp
        · cases h
      · next h4 =>
        rw [if_neg h4]
        split at h
        · next h1 =>
          rw [if_pos h1]
          split at h
          · injection h with h
            rw [← h]; simp
          · cases h
        · cases h
  · split at h
    · next hk =>
      have : k ≠ 2 := by omega
      rw [if_pos this]
      split at h
      · split at h
        · injection h with h
          exact h.symm
        · cases h
      · cases h
    · cases h
def comeP (t : Tk) : Prop := tokO (shownK t) = some (t, [])
theorem show_kind {t : Tk} {u : Bs} (h : showT t = some u) : t.kind ≠ 4 := by
  intro h4
  unfold showT at h
  rw [if_neg (by rintro ⟨h2, _⟩; rw [h4] at h2; exact absurd h2 (by decide)), if_neg (by rintro ⟨h2, _⟩; rw [h4] at h2; rcases h2 with h2 | h2 <;> exact absurd h2 (by decide))] at h
  cases h
theorem come_show {t : Tk} (h : comeP t) (h4 : t.kind ≠ 4) : showT t = some (shownK t) := by
  unfold comeP tokO at h
  split at h
  · injection h with h
    injection h with h _
    rw [← h] at h4
    exact absurd rfl h4
  · obtain ⟨u, hu⟩ := one_show h
    rw [hu, showT_eq hu]
theorem come_end {t : Tk} (h : comeP t) (h4 : t.kind = 4) : t = endT := by
  unfold comeP tokO at h
  split at h
  · injection h with h
    injection h with h _
    exact h.symm
  · obtain ⟨u, hu⟩ := one_show h
    exact absurd h4 (show_kind hu)
theorem show_come {t : Tk} {u : Bs} (h : showT t = some u) : comeP t := by
  have h1 := show_one h
  have h2 := showT_eq h
  subst h2
  unfold comeP tokO
  split
  · next he => rw [he] at h1; cases h1
  · exact h1
theorem end_come : comeP endT := by unfold comeP; rfl
theorem show_len {t : Tk} {u : Bs} (h : showT t = some u) : u.length ≤ 30 := by
  by_cases hk : t.kind = 2
  · rw [showT_eq h]
    obtain ⟨k, s, n, ty⟩ := t
    simp only [] at hk
    subst hk
    have h1 := hexI_len (decide (n + 4294967296 < 0)) (n + 4294967296).natAbs
    have h2 := signedL_len n
    unfold shownK shownP
    simp only []
    rw [if_neg (by decide)]
    split
    · split
      · rw [List.length_append, up_length]; simp; omega
      · omega
    · split
      · simp; omega
      · split
        · have : (tyName ty).length ≤ 4 := by unfold tyName; split <;> (try split) <;> simp
          simp; omega
        · simp
  · unfold showT at h
    rw [if_neg (fun x => hk x.1)] at h
    split at h
    · next hh =>
      split at h
      · split at h
        · injection h with h
          rw [← h]; omega
        · cases h
      · cases h
    · cases h
theorem showAll_eq : ∀ {ts : List Tk} {ss : List Bs}, showAll ts = some ss → ss = ts.map shownK ∧ ∀ t ∈ ts, showT t = some (shownK t)
  | [], ss, h => by
    have h' : some [] = some ss := h
    injection h' with h
    exact ⟨h.symm, fun t ht => by cases ht⟩
  | t :: r, ss, h => by
    unfold showAll at h
    split at h
    · cases h
    · next s hs =>
      split at h
      · cases h
      · next x hx =>
        injection h with h
        obtain ⟨h1, h2⟩ := showAll_eq hx
        refine ⟨by rw [← h, h1, showT_eq hs]; rfl, fun q hq => ?_⟩
        rcases List.mem_cons.1 hq with rfl | hq
        · rw [hs, showT_eq hs]
        · exact h2 q hq
theorem showAll_of : ∀ {ts : List Tk}, (∀ t ∈ ts, showT t = some (shownK t)) → showAll ts = some (ts.map shownK)
  | [], _ => rfl
  | t :: r, h => by
    unfold showAll
    rw [h t (List.mem_cons_self), showAll_of (ts := r) (fun q hq => h q (List.mem_cons_of_mem _ hq))]
    rfl
/-- a list that Show takes: tokens that come from a text, and the end behind them alone -/
def OkAt (ts : List Tk) (j : Nat) : Prop := ∀ h : j < ts.length, ((ts[j]'h).kind = 4 ↔ j + 1 = ts.length) ∧ comeP (ts[j]'h)
def Shows (ts : List Tk) : Prop := ts ≠ [] ∧ ∀ j, OkAt ts j
theorem shows_split {ts : List Tk} (h : Shows ts) : ts = ts.dropLast ++ [endT] ∧ showAll ts.dropLast = some (ts.dropLast.map shownK) := by
  obtain ⟨h0, h1⟩ := h
  have hl : 0 < ts.length := List.length_pos_iff.2 h0
  have e := List.dropLast_concat_getLast h0
  have he : ts.getLast h0 = endT := by
    rw [List.getLast_eq_getElem]
    have := h1 (ts.length - 1) (by omega)
    exact come_end this.2 (this.1.2 (by omega))
  refine ⟨by rw [he] at e; exact e.symm, showAll_of fun t ht => ?_⟩
  obtain ⟨j, hj, rfl⟩ := List.mem_iff_getElem.1 ht
  rw [List.length_dropLast] at hj
  have := h1 j (by omega)
  rw [List.getElem_dropLast]
  exact come_show this.2 (fun h4 => by have := this.1.1 h4; omega)
theorem shows_of {r : List Tk} {ss : List Bs} (h : showAll r = some ss) : Shows (r ++ [endT]) := by
  obtain ⟨_, h2⟩ := showAll_eq h
  refine ⟨by simp, fun j hj => ?_⟩
  rw [List.length_append] at hj
  simp only [List.length_cons, List.length_nil] at hj
  rcases Nat.lt_or_ge j r.length with h' | h'
  · rw [List.getElem_append_left h']
    have := h2 _ (List.getElem_mem h')
    refine ⟨⟨fun h4 => absurd h4 (show_kind this), fun e => ?_⟩, show_come this⟩
    simp at e; omega
  · have : j = r.length := by omega
    subst this
    rw [List.getElem_append_right (Nat.le_refl _)]
    simp only [Nat.sub_self, List.getElem_cons_zero]
    exact ⟨⟨fun _ => by simp, fun _ => rfl⟩, end_come⟩
theorem joinB_add : ∀ (a : List Bs) (s : Bs), joinB (a ++ [s]) = if a = [] then s else joinB a ++ 32 :: s
  | [], s => rfl
  | [x], s => by
    rw [if_neg (by simp)]
    rfl
  | x :: y :: a, s => by
    rw [if_neg (by simp)]
    show x ++ 32 :: joinB ((y :: a) ++ [s]) = (x ++ 32 :: joinB (y :: a)) ++ 32 :: s
    rw [joinB_add (y :: a) s, if_neg (by simp)]
    simp
theorem joinB_len : ∀ (b a : List Bs), (joinB a).length ≤ (joinB (a ++ b)).length
  | [], a => by simp
  | s :: b, a => by
    have h := joinB_len b (a ++ [s])
    rw [List.append_assoc] at h
    refine Nat.le_trans ?_ h
    rw [joinB_add]
    split
    · next h => rw [h]; exact Nat.zero_le _
    · simp
/-- a list as its tokens -/
def tkV (x : Tv) : Tk := ⟨x.k, x.s.data.toList, x.n, x.t⟩
/-- a list of tokens that a row lets in -/
def OkV (l : List Tv) : Prop := l.length * 48 ≤ 140737488351232 ∧ ∀ x ∈ l, x.s.size ≤ 140737488351232 ∧ -9223372036854775808 ≤ x.n ∧ x.n ≤ 9223372036854775807
theorem text_back (s : ByteArray) : (⟨s.data.toList.toArray⟩ : ByteArray) = s := by cases s; simp
theorem come_v (x : Tv) (hs : x.s.size ≤ 140737488351232) (h0 : -9223372036854775808 ≤ x.n) (h1 : x.n ≤ 9223372036854775807) (w : World) (hg : Glo w) (h3 : Lay3 w) : Calls Tryd.prog 27 #[.agg #[.int .i64 x.k, .string x.s, .int .i64 x.n, .int .i64 x.t, .int .i64 x.at_]] w fun e w' => (∃ b, e = .returned (.bool b) ∧ (b = true ↔ comeP (tkV x))) ∧ Below w.heap.size w w' := by
  have h := come_any x.k x.s.data.toList x.n x.t x.at_ (by rw [text_len]; exact hs) h0 h1 w hg h3
  rw [text_back] at h
  exact h
theorem shown_v (x : Tv) (h0 : -9223372036854775808 ≤ x.n) (h1 : x.n ≤ 9223372036854775807) (w : World) (hg : Glo w) (h3 : Lay3 w) : Calls Tryd.prog 30 #[.agg #[.int .i64 x.k, .string x.s, .int .i64 x.n, .int .i64 x.t, .int .i64 x.at_]] w fun e w' => e = .returned (.string ⟨(shownK (tkV x)).toArray⟩) ∧ Below w.heap.size w w' := by
  have h := shown_any x.k x.s.data.toList x.n x.t x.at_ h0 h1 w hg h3
  rw [text_back] at h
  exact h
/-- what Show answers -/
def ShowOut (ts : List Tk) (v : Value) : Prop :=
  (¬ Shows ts ∧ v = .tuple #[.string ⟨#[]⟩, .int .i64 50]) ∨
  (Shows ts ∧ 65536 < (joinB (ts.dropLast.map shownK)).length ∧ v = .tuple #[.string ⟨#[]⟩, .int .i64 2]) ∨
  (Shows ts ∧ (joinB (ts.dropLast.map shownK)).length ≤ 65536 ∧ v = .tuple #[.string ⟨(joinB (ts.dropLast.map shownK)).toArray⟩, .int .i64 0])
theorem bld_below {T e : TypeId} {B b : Nat} {p : Value} {bs : List Value} {w w' : World} (h : Lib.BuilderAt T e B b p bs w) (hb : Below w.heap.size w w') : Lib.BuilderAt T e B b p bs w' := by
  obtain ⟨h1, v, h2, h3, h4⟩ := h
  refine ⟨h1, v, ?_, ⟨h3.1, ?_⟩, h4⟩
  · rw [hb.block b (Array.getElem?_eq_some_iff.1 h2).1]; exact h2
  · rcases h3.2 with h | ⟨g, cap, cur, r1, r2, r3, r4⟩
    · exact .inl h
    · exact .inr ⟨g, cap, cur, r1, r2, by rw [hb.block g (Array.getElem?_eq_some_iff.1 r3).1]; exact r3, r4⟩
theorem isBld_below {T e : TypeId} {B b : Nat} {bs : List Value} {w w' : World} (h : Lib.IsBuilder T e B b bs w) (hb : Below w.heap.size w w') : Lib.IsBuilder T e B b bs w' :=
  h.elim (fun x => .inl (bld_below x hb)) (fun x => .inr (bld_below x hb))
theorem byteCells_app (a b : Bs) : Lib.byteCells (a ++ b) = Lib.byteCells a ++ Lib.byteCells b := List.map_append
theorem strCells_text (l : Bs) : Lib.strCells ⟨l.toArray⟩ = Lib.byteCells l := by simp [Lib.strCells, Lib.byteCells]
end Go.Proofs.YtfcnbiikjopajaaDoor
