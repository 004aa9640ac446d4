/- A QUAD that is shown a walk, plainly. -/
import Derived.Test.YthifgfhgkdjkfaaDoorSoW
namespace Go.Proofs.YthifgfhgkdjkfaaDoor
open Go.RowKit
def sm (l : List Int) : Nat → Int
  | 0 => 0
  | k + 1 => sm l k + l.getD k 0
theorem isS_at {l : List Int} (h : l.all isS = true) {k : Nat} (hk : k < l.length) : l.getD k 0 = 0 ∨ l.getD k 0 = 1 ∨ l.getD k 0 = -1 := by
  rw [List.getD_eq_getElem?_getD, List.getElem?_eq_getElem hk]
  exact (isS_iff _).1 (List.all_eq_true.1 h _ (List.getElem_mem hk))
theorem sm_in {l : List Int} (h : l.all isS = true) : ∀ k, k ≤ l.length → -(k : Int) ≤ sm l k ∧ sm l k ≤ (k : Int)
  | 0, _ => by rw [sm]; omega
  | k + 1, hk => by
    have h1 := sm_in h k (by omega)
    have h2 := isS_at h (k := k) (by omega)
    rw [sm]
    omega
theorem stp_walk {f : Nat} (hf : f < 4) {l : List Int} (h : l.all isS = true) {k : Nat} (hk : k < l.length) : stp (wlk f l k) (wlk f l (k + 1)) = l.getD k 0 ∧ jmp (wlk f l k) (wlk f l (k + 1)) = false := by
  have h1 := wlk_lt hf l k
  have h2 := isS_at h hk
  rw [wlk]
  generalize l.getD k 0 = z at *
  generalize wlk f l k = c at *
  obtain rfl | rfl | rfl | rfl : c = 0 ∨ c = 1 ∨ c = 2 ∨ c = 3 := by omega
  all_goals
    rcases h2 with rfl | rfl | rfl
    all_goals decide
theorem pn_ln {n : Nat} (h : n < 4) : pn (lnA n) (lnB n) = n := by
  obtain rfl | rfl | rfl | rfl : n = 0 ∨ n = 1 ∨ n = 2 ∨ n = 3 := by omega
  all_goals rfl
def cP (n : Nat) (r er : Bool) (v : Int) : Cd := ⟨lnA n, lnB n, r, v, er, (n : Int) + 1⟩
theorem cd_first {n : Nat} (h : n < 4) : cdT ⟨lnA n, lnB n, false, 0, false, 0⟩ = cP n false false 0 := by
  unfold cdT lst5 cP
  rw [pn_ln h]
  simp
theorem dint_fits {v : Int} (h : -1000 ≤ v ∧ v ≤ 1000) : fitB 3 v = true := by
  rw [fit_span]; simp [tyB]; omega
theorem cd_go {m n : Nat} (hm : m < 4) (hn : n < 4) (hj : jmp m n = false) {v : Int} (hv : -900 ≤ v ∧ v ≤ 900) : cdT ⟨lnA n, lnB n, false, v, false, (m : Int) + 1⟩ = cP n false false (v + stp m n) := by
  have hs := stp_small m n
  have e : wrN 3 (v + stp m n) = v + stp m n := wr_fit (dint_fits (by omega))
  have e2 : ((m : Int) + 1 - 1).toNat = m := by omega
  unfold cdT lst5 cP folT
  rw [pn_ln hn]
  simp only [Bool.false_eq_true, if_false, e2, hj, e]
  rw [if_pos (by omega)]
theorem cd_jump {m : Nat} (hm : m < 4) (v : Int) : cdT ⟨lnA ((m + 2) % 4), lnB ((m + 2) % 4), false, v, false, (m : Int) + 1⟩ = cP ((m + 2) % 4) false true v := by
  have e2 : ((m : Int) + 1 - 1).toNat = m := by omega
  have hj : jmp m ((m + 2) % 4) = true := by
    obtain rfl | rfl | rfl | rfl : m = 0 ∨ m = 1 ∨ m = 2 ∨ m = 3 := by omega
    all_goals rfl
  unfold cdT lst5 cP folT
  rw [pn_ln (Nat.mod_lt _ (by decide))]
  simp only [Bool.false_eq_true, if_false, e2, hj, if_true]
  rw [if_pos (by omega)]
theorem cd_reset {n : Nat} (h : n < 4) (er : Bool) (v l : Int) : cdT ⟨lnA n, lnB n, true, v, er, l⟩ = cP n true false 0 := by
  unfold cdT lst5 cP
  rw [pn_ln h]
  simp
/-- the cells behind k places -/
def cS (F : Nat) (ws : List Int) : Nat → List Int
  | 0 => [0, 0, 0, 0, 0, 0]
  | k + 1 => (cP (wlk F ws k) false false (sm ws k)).ls
theorem cS_form {F : Nat} (hF : F < 4) {ws : List Int} (hw : ws.all isS = true) {k : Nat} (hk : k ≤ ws.length) (hl : ws.length ≤ 100) : ∃ x0 x1 x2 v last, cS F ws k = [x0, x1, x2, v, flagN false, last] ∧ fitB 3 v = true ∧ fitB 2 last = true ∧ cdT ⟨lnA (wlk F ws k), lnB (wlk F ws k), false, v, false, last⟩ = cP (wlk F ws k) false false (sm ws k) := by
  cases k with
  | zero => exact ⟨0, 0, 0, 0, 0, rfl, by decide, by decide, cd_first hF⟩
  | succ k =>
    have h1 := sm_in hw k (by omega)
    have h2 := wlk_lt hF ws k
    have h3 := stp_walk hF hw (k := k) (by omega)
    refine ⟨_, _, _, sm ws k, (wlk F ws k : Int) + 1, rfl, dint_fits (by omega), int_fits (by omega), ?_⟩
    rw [cd_go h2 (wlk_lt hF ws (k + 1)) h3.2 (by omega), h3.1, sm]
/-- steps out of any numbers -/
def s3 (x : Int) : Int := wrap64 ((IntKind.u64.wrap x).tmod 3) - 1
theorem s3_in (x : Int) : s3 x = -1 ∨ s3 x = 0 ∨ s3 x = 1 := by
  obtain ⟨r, h0, h1, e⟩ := rem_up x 3 (by decide) (by decide)
  unfold s3
  rw [e]; omega
def wsL (la : List Int) (k : Nat) : List Int := (la.take k).map s3
theorem wsL_len {la : List Int} {k : Nat} (h : k ≤ la.length) : (wsL la k).length = k := by unfold wsL; simp; omega
theorem wsL_all (la : List Int) (k : Nat) : (wsL la k).all isS = true := by
  rw [List.all_eq_true]
  intro y hy
  unfold wsL at hy
  obtain ⟨x, _, rfl⟩ := List.mem_map.1 hy
  exact (isS_iff _).2 (by have := s3_in x; omega)
theorem wsL_next {la : List Int} {k : Nat} {x : Int} (hx : la[k]? = some x) : wsL la (k + 1) = wsL la k ++ [s3 x] := by
  obtain ⟨hk, rfl⟩ := List.getElem?_eq_some_iff.1 hx
  unfold wsL
  rw [List.take_succ_eq_append_getElem hk, List.map_append]; rfl
theorem sm_app (l m : List Int) : ∀ k, k ≤ l.length → sm (l ++ m) k = sm l k
  | 0, _ => rfl
  | k + 1, h => by
    rw [sm, sm, sm_app l m k (by omega)]
    rw [List.getD_eq_getElem?_getD, List.getElem?_append_left (by omega), List.getD_eq_getElem?_getD]
theorem sm_next {la : List Int} {k : Nat} {x : Int} (hx : la[k]? = some x) : sm (wsL la (k + 1)) (k + 1) = sm (wsL la k) k + s3 x := by
  have hk : k ≤ la.length := Nat.le_of_lt (List.getElem?_eq_some_iff.1 hx).1
  have hl := wsL_len hk
  rw [wsL_next hx, sm, sm_app _ _ k (by omega)]
  rw [List.getD_eq_getElem?_getD, List.getElem?_append_right (by omega), hl, Nat.sub_self]; rfl
theorem rem4 (a : Int) : ∃ A : Nat, A < 4 ∧ wrap64 ((IntKind.u64.wrap a).tmod 4) = (A : Int) := by
  obtain ⟨r, h0, h1, e⟩ := rem_up a 4 (by decide) (by decide)
  exact ⟨r.toNat, by omega, by rw [e]; omega⟩
theorem pl_at {F : Nat} (ws : List Int) {k : Nat} (hk : k ≤ ws.length) : ((F : Int) :: walkL F ws)[k]? = some ((wlk F ws k : Nat) : Int) := by
  cases k with
  | zero => rfl
  | succ k =>
    rw [List.getElem?_cons_succ]
    unfold walkL
    rw [List.getElem?_map, List.getElem?_range (by omega)]; rfl
end Go.Proofs.YthifgfhgkdjkfaaDoor
