/- Plain facts for LexBack: what is shown has the same tokens, and what was read can be shown. -/
import Derived.Test.YtfcnbiikjopajaaDoorShwP
namespace Go.Proofs.YtfcnbiikjopajaaDoor
open Go.RowKit
theorem lexes_many {l : Bs} {ts : List (Tk × Nat)} (h : Lexes l ts) : ∀ (f cnt : Nat), l.length < f → cnt ≤ 4096 → 4096 < cnt + ts.length → ∃ n, toksF f cnt l = .error (n, 2) := by
  induction h with
  | fin hs =>
    intro f cnt hf hc hm
    obtain ⟨f, rfl⟩ : ∃ g, f = g + 1 := ⟨f - 1, by omega⟩
    unfold toksF
    rw [hs]
    simp only []
    rw [if_pos (by simp at hm; omega)]
    exact ⟨_, rfl⟩
  | step hs h1 h2 ih =>
    intro f cnt hf hc hm
    obtain ⟨f, rfl⟩ : ∃ g, f = g + 1 := ⟨f - 1, by omega⟩
    have l1 := (skip_suf hs).length_le
    have l2 := (one_suf h1).2
    simp only [List.length_cons] at hm
    unfold toksF
    rw [hs]
    simp only []
    by_cases h4 : 4096 ≤ cnt
    · rw [if_pos h4]
      exact ⟨_, rfl⟩
    · rw [if_neg h4, h1]
      simp only []
      obtain ⟨n, e⟩ := ih f (cnt + 1) (by omega) (by omega) (by omega)
      rw [e]
      exact ⟨n, rfl⟩
theorem toksF_code : ∀ {f cnt : Nat} {l : Bs} {n : Nat} {c : Int}, toksF f cnt l = .error (n, c) → c = 2 ∨ c = 50
  | 0, cnt, l, n, c, h => by
    unfold toksF at h
    injection h with h
    injection h with _ h
    exact .inr h.symm
  | f + 1, cnt, l, n, c, h => by
    unfold toksF at h
    split at h
    · injection h with h
      injection h with _ h
      exact .inr h.symm
    · split at h
      · injection h with h
        injection h with _ h
        exact .inl h.symm
      · split at h
        · cases h
        · split at h
          · injection h with h
            injection h with _ h
            exact .inr h.symm
          · split at h
            · next e he =>
              injection h with h
              subst h
              exact toksF_code he
            · cases h
theorem toks_code {l : Bs} {n : Nat} {c : Int} (h : toks l = .error (n, c)) : c = 2 ∨ c = 50 := by
  unfold toks at h
  split at h
  · injection h with h
    injection h with _ h
    exact .inl h.symm
  · exact toksF_code h
/-- the text that a list of tokens is shown as -/
def shownL (ts : List Tk) : Bs := joinB (ts.dropLast.map shownK)
theorem shown_toks {ts : List Tk} (h : Shows ts) (h6 : (shownL ts).length ≤ 65536) : (ts.length ≤ 4096 → ∃ ps, toks (shownL ts) = .ok ps ∧ ps.map (·.1) = ts) ∧ (4096 < ts.length → ∃ n, toks (shownL ts) = .error (n, 2)) := by
  obtain ⟨h1, h2⟩ := shows_split h
  obtain ⟨ps, hl, he⟩ := lexes_show h2
  rw [← h1] at he
  have hn : ps.length = ts.length := by rw [← he, List.length_map]
  refine ⟨fun hc => ⟨ps, lexes_toks hl h6 (by omega), he⟩, fun hc => ?_⟩
  unfold toks
  rw [if_neg (Nat.not_lt.2 h6)]
  exact lexes_many hl _ _ (Nat.lt_succ_self _) (by omega) (by omega)
theorem core_tv {L : Nat} {ps : List (Tk × Nat)} {l : List Tv} (h : ps.map (·.1) = l.map tkV) : (ps.map (tvOf L)).map core = l.map core := by
  have e1 : (ps.map (tvOf L)).map core = (ps.map (·.1)).map fun t : Tk => (t.kind, (⟨t.s.toArray⟩ : ByteArray), t.n, t.ty) := by
    rw [List.map_map, List.map_map]; rfl
  have e2 : l.map core = (l.map tkV).map fun t : Tk => (t.kind, (⟨t.s.toArray⟩ : ByteArray), t.n, t.ty) := by
    rw [List.map_map]
    refine List.map_congr_left fun x _ => ?_
    show core x = (x.k, (⟨x.s.data.toList.toArray⟩ : ByteArray), x.n, x.t)
    rw [text_back]; rfl
  rw [e1, e2, h]
theorem tkV_tvOf (L : Nat) (ps : List (Tk × Nat)) : (ps.map (tvOf L)).map tkV = ps.map (·.1) := by
  rw [List.map_map]
  exact List.map_congr_left fun x _ => rfl
theorem read_shows {l : Bs} {ps : List (Tk × Nat)} (h : toks l = .ok ps) : Shows (ps.map (·.1)) := by
  obtain ⟨hl, _, _⟩ := toks_lexes h
  obtain ⟨ss, hs⟩ := all_show hl
  obtain ⟨us, rfl⟩ := hl.last
  rw [List.dropLast_concat] at hs
  rw [List.map_append]
  exact shows_of hs
theorem show_fits {t : Tk} {u : Bs} (h : showT t = some u) : t.s.length ≤ 24 ∧ -2147483648 ≤ t.n ∧ t.n ≤ 2147483648 := by
  unfold showT at h
  split at h
  · next hk =>
    rw [hk.2]
    refine ⟨by simp, ?_⟩
    split at h
    · split at h
      · split at h
        · omega
        · cases h
      · split at h
        · omega
        · cases h
    · split at h
      · split at h
        · omega
        · cases h
      · split at h
        · split at h
          · next hf => have := fit_range5 hf; omega
          · cases h
        · cases h
  · split at h
    · next hk => exact ⟨hk.2.2.2.2, by omega, by omega⟩
    · cases h
theorem read_ok {l : Bs} {ps : List (Tk × Nat)} (h : toks l = .ok ps) (L : Nat) : OkV (ps.map (tvOf L)) := by
  obtain ⟨hl, hn, _⟩ := toks_lexes h
  refine ⟨by rw [List.length_map]; omega, fun x hx => ?_⟩
  obtain ⟨p, hp, rfl⟩ := List.mem_map.1 hx
  have key : p.1.s.length ≤ 24 ∧ -2147483648 ≤ p.1.n ∧ p.1.n ≤ 2147483648 := by
    obtain ⟨h1, h2⟩ := shows_split (read_shows h)
    have hm : p.1 ∈ ps.map (·.1) := List.mem_map_of_mem hp
    rw [h1] at hm
    rcases List.mem_append.1 hm with hm | hm
    · exact show_fits ((showAll_eq h2).2 _ hm)
    · rw [List.mem_singleton.1 hm]
      exact ⟨by decide, by decide, by decide⟩
  refine ⟨?_, ?_, ?_⟩
  · show (⟨p.1.s.toArray⟩ : ByteArray).size ≤ _
    rw [list_size]; omega
  · show _ ≤ p.1.n; omega
  · show p.1.n ≤ _; omega
theorem own_form2 {w : World} {base e size : Nat} {v : Value} {n : Nat} {xs : List Value} (h : w.ownsRow base e size v n xs) : ∃ a cap, v = .slice a n cap ∧ n ≤ cap := by
  rcases h.2 with ⟨h1, h2⟩ | ⟨g, cap, cur, h1, _, _, h4, _⟩
  · exact ⟨none, 0, by rw [h1, h2], by omega⟩
  · exact ⟨_, _, h1, h4⟩
end Go.Proofs.YtfcnbiikjopajaaDoor
