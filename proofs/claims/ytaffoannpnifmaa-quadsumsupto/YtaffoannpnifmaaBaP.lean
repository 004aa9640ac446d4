/- Walks there and back, and what their places count to (no program). -/
import Derived.Test.YtaffoannpnifmaaWoW
namespace Go.Proofs.Ytaffoannpnifmaa
def sm (l : List Int) : Nat → Int
  | 0 => 0
  | k + 1 => sm l k + l.getD k 0
def bkL (l : List Int) : List Int := l.reverse.map fun x => -x
theorem bkL_length (l : List Int) : (bkL l).length = l.length := by unfold bkL; simp
theorem isS_at {l : List Int} (h : l.all isS = true) {k : Nat} (hk : k < l.length) : l.getD k 0 = 0 ∨ l.getD k 0 = 1 ∨ l.getD k 0 = -1 := by
  rw [List.getD_eq_getElem?_getD, List.getElem?_eq_getElem hk]
  exact (isS_iff _).1 (List.all_eq_true.1 h _ (List.getElem_mem hk))
theorem sm_in {l : List Int} (h : l.all isS = true) : ∀ k, k ≤ l.length → -(k : Int) ≤ sm l k ∧ sm l k ≤ (k : Int)
  | 0, _ => by rw [sm]; omega
  | k + 1, hk => by
    have h1 := sm_in h k (by omega)
    have h2 := isS_at h (k := k) (by omega)
    rw [sm]
    omega
theorem gt_walk (f : Nat) (l : List Int) : ∀ k, k ≤ l.length → gt ((f : Int) :: walkL f l) k = wlk f l k
  | 0, _ => by unfold gt; simp [wlk]
  | k + 1, hk => by
    unfold gt walkL
    rw [List.getD_eq_getElem?_getD, List.getElem?_cons_succ, List.getElem?_map, List.getElem?_range (by omega)]
    simp
theorem stp_walk {f : Nat} (hf : f < 4) {l : List Int} (h : l.all isS = true) {k : Nat} (hk : k < l.length) : stp (wlk f l k) (wlk f l (k + 1)) = l.getD k 0 ∧ jmp (wlk f l k) (wlk f l (k + 1)) = false := by
  have h1 := wlk_lt hf l k
  have h2 := isS_at h hk
  rw [wlk]
  generalize l.getD k 0 = z at *
  generalize wlk f l k = c at *
  obtain rfl | rfl | rfl | rfl : c = 0 ∨ c = 1 ∨ c = 2 ∨ c = 3 := by omega
  all_goals
    rcases h2 with rfl | rfl | rfl
    all_goals decide
theorem sS_walk {f : Nat} (hf : f < 4) {l : List Int} (h : l.all isS = true) : ∀ k, k ≤ l.length → sS ((f : Int) :: walkL f l) (k + 1) = sm l k ∧ sJ ((f : Int) :: walkL f l) (k + 1) = 0
  | 0, _ => by rw [sS, sJ, sm]; exact ⟨rfl, rfl⟩
  | k + 1, hk => by
    have h1 := sS_walk hf h k (by omega)
    have h2 := stp_walk hf h (k := k) (by omega)
    rw [sS, sJ, h1.1, h1.2, gt_walk f l k (by omega), gt_walk f l (k + 1) hk, h2.1, h2.2, sm]
    exact ⟨rfl, rfl⟩
theorem all_walk {f : Nat} (hf : f < 4) (l : List Int) : ((f : Int) :: walkL f l).all isP = true := by
  rw [List.all_cons, isP_of hf, Bool.true_and, List.all_eq_true]
  intro x hx
  unfold walkL at hx
  obtain ⟨k, _, rfl⟩ := List.mem_map.1 hx
  exact isP_of (wlk_lt hf l (k + 1))
theorem cnt_walk {f : Nat} (hf : f < 4) {l : List Int} (h : l.all isS = true) : cntV ((f : Int) :: walkL f l) = (sm l l.length, 0, 0) := by
  unfold cntV
  rw [if_pos (all_walk hf l), List.length_cons, walkL_length, (sS_walk hf h l.length (Nat.le_refl _)).1, (sS_walk hf h l.length (Nat.le_refl _)).2]
  rfl
theorem bk_at (l : List Int) {k : Nat} (hk : k < l.length) : (bkL l).getD k 0 = -(l.getD (l.length - 1 - k) 0) := by
  unfold bkL
  rw [List.getD_eq_getElem?_getD, List.getElem?_map, List.getElem?_reverse hk, List.getD_eq_getElem?_getD]
  rw [List.getElem?_eq_getElem (show l.length - 1 - k < l.length by omega)]
  rfl
theorem bk_take (l : List Int) {k : Nat} {z : Int} (hk : k < l.length) (hz : l[l.length - 1 - k]? = some z) : (bkL l).take (k + 1) = (bkL l).take k ++ [-z] := by
  have h : k < (bkL l).length := by rw [bkL_length]; exact hk
  rw [List.take_succ_eq_append_getElem h]
  refine congrArg (_ ++ [·]) ?_
  have e : (bkL l)[k]? = some (-z) := by unfold bkL; rw [List.getElem?_map, List.getElem?_reverse hk, hz]; rfl
  exact (List.getElem?_eq_some_iff.1 e).2
theorem all_bk {l : List Int} (h : l.all isS = true) : (bkL l).all isS = true := by
  rw [List.all_eq_true]
  intro x hx
  unfold bkL at hx
  obtain ⟨y, hy, rfl⟩ := List.mem_map.1 hx
  have := (isS_iff y).1 (List.all_eq_true.1 h y (List.mem_reverse.1 hy))
  exact (isS_iff _).2 (by omega)
theorem wlk_bk {f : Nat} (hf : f < 4) {l : List Int} (h : l.all isS = true) : ∀ k, k ≤ l.length → wlk (wlk f l l.length) (bkL l) k = wlk f l (l.length - k)
  | 0, _ => rfl
  | k + 1, hk => by
    rw [wlk, wlk_bk hf h k (by omega), bk_at l (by omega)]
    obtain ⟨j, hj⟩ : ∃ j, l.length - k = j + 1 := ⟨l.length - k - 1, by omega⟩
    rw [hj, wlk, show l.length - (k + 1) = j from by omega, show l.length - 1 - k = j from by omega]
    have h1 := wlk_lt hf l j
    have h2 := isS_at h (k := j) (by omega)
    omega
theorem walk_last {f : Nat} (l : List Int) (hl : 0 < l.length) : (walkL f l)[l.length - 1]? = some ((wlk f l l.length : Nat) : Int) := by
  unfold walkL
  rw [List.getElem?_map, List.getElem?_range (by omega)]
  simp only [Option.map_some]
  rw [show l.length - 1 + 1 = l.length from by omega]
theorem back_last {f : Nat} (hf : f < 4) {l : List Int} (h : l.all isS = true) (hl : 0 < l.length) : (walkL (wlk f l l.length) (bkL l))[l.length - 1]? = some (f : Int) := by
  have e := walk_last (f := wlk f l l.length) (bkL l) (by rw [bkL_length]; exact hl)
  rw [bkL_length, wlk_bk hf h l.length (Nat.le_refl _), Nat.sub_self, wlk] at e
  exact e
end Go.Proofs.Ytaffoannpnifmaa
