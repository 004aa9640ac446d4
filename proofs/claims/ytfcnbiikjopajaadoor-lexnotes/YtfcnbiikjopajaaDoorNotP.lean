/- Plain facts on the law LexNotes. -/
import Derived.Test.YtfcnbiikjopajaaDoorSameW
import Derived.Test.YtfcnbiikjopajaaDoorOpenW
namespace Go.Proofs.YtfcnbiikjopajaaDoor
open Go.RowKit
theorem toksF_code : ∀ (f cnt : Nat) (l : Bs) (n : Nat) (c : Int), toksF f cnt l = .error (n, c) → c = 2 ∨ c = 50
  | 0, _, l, n, c, h => by
    unfold toksF at h
    injection h with h; injection h with _ h; exact .inr h.symm
  | f + 1, cnt, l, n, c, h => by
    unfold toksF at h
    split at h
    · injection h with h; injection h with _ h; exact .inr h.symm
    · split at h
      · injection h with h; injection h with _ h; exact .inl h.symm
      · split at h
        · cases h
        · split at h
          · injection h with h; injection h with _ h; exact .inr h.symm
          · split at h
            · next e he =>
              injection h with h
              subst h
              exact toksF_code f _ _ n c he
            · cases h
theorem toks_code {l : Bs} {n : Nat} {c : Int} (h : toks l = .error (n, c)) : c = 2 ∨ c = 50 := by
  unfold toks at h
  split at h
  · injection h with h; injection h with _ h; exact .inl h.symm
  · exact toksF_code _ _ _ n c h
def betw : Nat → Bs
  | 0 => [10]
  | 1 => [10, 40, 42, 32, 59, 32, 42, 41]
  | 2 => [10, 123, 32, 120, 32, 125]
  | 3 => [32, 40, 42, 32, 97, 32, 47, 47, 32, 98, 32, 42, 41, 32]
  | 4 => [10, 47, 47, 32, 99, 32, 42, 41, 10]
  | _ => [9, 13, 10]
theorem betw_len (k : Nat) : (betw k).length ≤ 14 := by
  match k with
  | 0 => decide | 1 => decide | 2 => decide | 3 => decide | 4 => decide | _ + 5 => show 3 ≤ 14; decide
theorem betw_skip (k : Nat) : ∃ d m, betw k = d :: m ∧ isBlk d = true ∧ ∀ b, skip (d :: (m ++ b)) = skip b := by
  match k with
  | 0 => exact ⟨_, _, rfl, by decide, between1⟩
  | 1 => exact ⟨_, _, rfl, by decide, between2⟩
  | 2 => exact ⟨_, _, rfl, by decide, between3⟩
  | 3 => exact ⟨_, _, rfl, by decide, between4⟩
  | 4 => exact ⟨_, _, rfl, by decide, between5⟩
  | _ + 5 => exact ⟨_, _, rfl, by decide, between6⟩
theorem toks_notes {a b : Bs} {ts us : List (Tk × Nat)} (ha : toks a = .ok ts) (hb : toks b = .ok us) (hn : ts.length + us.length ≤ 4096) (hl : a.length + b.length ≤ 65516) (k : Nat) (ho : (betw k).head? = some 10 ∨ openL a = false) :
    ∃ ps, toks ((a ++ betw k) ++ b) = .ok ps ∧ ps.map (·.1) = ts.dropLast.map (·.1) ++ us.map (·.1) := by
  obtain ⟨d, m, hk, hd, hs⟩ := betw_skip k
  have hla := betw_len k
  have h1 := toks_lexes ha
  have h2 := toks_lexes hb
  rw [hk] at ho hla ⊢
  obtain ⟨vs, hv, he⟩ := lexes_app hd (hs b) h2.1 h1.1 (ho.imp (fun h => Option.some.inj h) id)
  have hvl : vs.length = ts.length - 1 := by
    have := congrArg List.length he
    rw [List.length_map, List.length_map, List.length_dropLast] at this
    exact this
  refine ⟨vs ++ us, ?_, by rw [List.map_append, he]⟩
  rw [show (a ++ d :: m) ++ b = a ++ d :: (m ++ b) by simp]
  refine lexes_toks hv ?_ (by rw [List.length_append]; omega)
  simp only [List.length_append, List.length_cons] at hla ⊢
  omega
theorem core_of (L M : Nat) (x y : Tk × Nat) (h : x.1 = y.1) : core (tvOf L x) = core (tvOf M y) := by
  unfold core tvOf; rw [h]
theorem core_map (L M : Nat) : ∀ (xs ys : List (Tk × Nat)), xs.map (·.1) = ys.map (·.1) → (xs.map (tvOf L)).map core = (ys.map (tvOf M)).map core
  | [], [], _ => rfl
  | [], y :: ys, h => by cases h
  | x :: xs, [], h => by cases h
  | x :: xs, y :: ys, h => by
    simp only [List.map_cons, List.cons.injEq] at h ⊢
    exact ⟨core_of L M x y h.1, core_map L M xs ys h.2⟩
theorem core_fst (L M : Nat) : ∀ (xs ys : List (Tk × Nat)), (xs.map (tvOf L)).map core = (ys.map (tvOf M)).map core → xs.map (·.1) = ys.map (·.1)
  | [], [], _ => rfl
  | [], y :: ys, h => by cases h
  | x :: xs, [], h => by cases h
  | x :: xs, y :: ys, h => by
    simp only [List.map_cons, List.cons.injEq] at h ⊢
    refine ⟨?_, core_fst L M xs ys h.2⟩
    obtain ⟨⟨k1, s1, n1, t1⟩, p1⟩ := x
    obtain ⟨⟨k2, s2, n2, t2⟩, p2⟩ := y
    have h1 := h.1
    unfold core tvOf at h1
    simp only [Prod.mk.injEq, ByteArray.mk.injEq, List.toArray_eq_toArray_eq] at h1
    simp [h1]
theorem notes_core {ts us ps : List (Tk × Nat)} {L M N : Nat} (h : ps.map (·.1) = ts.dropLast.map (·.1) ++ us.map (·.1)) : (ps.map (tvOf L)).map core = ((ts.map (tvOf M)).take (ts.length - 1) ++ us.map (tvOf N)).map core := by
  have e : (ts.map (tvOf M)).take (ts.length - 1) = ts.dropLast.map (tvOf M) := by
    rw [← List.map_take, List.dropLast_eq_take]
  rw [e, List.map_append, ← core_map M N us us rfl]
  rw [core_map L M ps (ts.dropLast ++ us) (by rw [h, List.map_append]), List.map_append, List.map_append]
theorem Lst.take {w : World} {a : Option Addr} {n cap : Nat} {l : List Tv} (h : Lst w (.slice a n cap) l) (k : Nat) (hk : k ≤ n) : Lst w (.slice a k cap) (l.take k) := by
  obtain ⟨a', b, off, cap', hv, hA, hI⟩ := h
  injection hv with e1 e2 e3
  subst e1 e2 e3
  have hl : (l.take k).length = k := by rw [List.length_take]; omega
  refine ⟨a, b, off, cap, by rw [hl], fun h => hA (by omega), fun i x hx => hI i x ?_⟩
  rw [List.getElem?_take] at hx
  split at hx
  · exact hx
  · cases hx
/-- what Tokens answers, in one form -/
theorem tks_form {base : Nat} {l : Bs} {e : Ending} {w' : World} (h : TksOut base l e w') : ∃ a n cap p c, e = .returned (.tuple #[.slice a n cap, .agg #[.int .i64 p, .int .i64 c]]) ∧
    Hid (((c = 2 ∨ c = 50) ∧ n = 0) ∨ (c = 0 ∧ p = 0 ∧ ∃ ts, toks l = .ok ts ∧ n = ts.length ∧ w'.ownsRow base 41 5 (.slice a n cap) ts.length (tksC l.length ts))) := by
  unfold TksOut at h
  cases ht : toks l with
  | error x =>
    obtain ⟨n, c⟩ := x
    rw [ht] at h
    exact ⟨none, 0, 0, _, c, h, .inl ⟨toks_code ht, rfl⟩⟩
  | ok ts =>
    rw [ht] at h
    obtain ⟨v, h1, h2⟩ := h
    obtain ⟨a, cap, rfl⟩ := own_form h2
    exact ⟨a, ts.length, cap, 0, 0, h1, .inr ⟨rfl, rfl, ts, rfl, rfl, h2⟩⟩
/-- the law's six texts -/
abbrev SixT : Obj := .cells #[.string ⟨#[10]⟩, .string ⟨#[10, 40, 42, 32, 59, 32, 42, 41]⟩, .string ⟨#[10, 123, 32, 120, 32, 125]⟩, .string ⟨#[32, 40, 42, 32, 97, 32, 47, 47, 32, 98, 32, 42, 41, 32]⟩, .string ⟨#[10, 47, 47, 32, 99, 32, 42, 41, 10]⟩, .string ⟨#[9, 13, 10]⟩] 9
theorem six_cell (W : World) (g k : Nat) (hk : k < 6) (hg : g = W.heap.size) : (W.alloc SixT).cell? ⟨g, k, none⟩ = some (.string ⟨(betw k).toArray⟩) := by
  subst hg
  match k, hk with
  | 0, _ => simp; rfl
  | 1, _ => simp; rfl
  | 2, _ => simp; rfl
  | 3, _ => simp; rfl
  | 4, _ => simp; rfl
  | 5, _ => simp; rfl
theorem which_six (z : Int) : ∃ k : Nat, k < 6 ∧ wrap64 ((IntKind.u64.wrap z).tmod 6) = (k : Int) := by
  have h0 : (0 : Int) ≤ IntKind.u64.wrap z := by simp only [IntKind.wrap, IntKind.bits, IntKind.signed]; simp; omega
  have h1 : (IntKind.u64.wrap z).tmod 6 = (IntKind.u64.wrap z) % 6 := Int.tmod_eq_emod_of_nonneg h0
  have h2 : (0 : Int) ≤ (IntKind.u64.wrap z) % 6 := Int.emod_nonneg _ (by decide)
  have h3 : (IntKind.u64.wrap z) % 6 < 6 := Int.emod_lt_of_pos _ (by decide)
  refine ⟨((IntKind.u64.wrap z) % 6).toNat, by omega, ?_⟩
  rw [h1]
  unfold wrap64
  omega
end Go.Proofs.YtfcnbiikjopajaaDoor
