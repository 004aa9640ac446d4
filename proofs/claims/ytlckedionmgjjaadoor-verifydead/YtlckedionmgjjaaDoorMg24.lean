/- Code without jumps, looked at (plain). | VerifyPushes: what it decides (plain). -/
import Derived.Test.YtlckedionmgjjaaDoorMg21
namespace Go.Proofs.YtlckedionmgjjaaDoor
open Go.RowKit
/-- a walk that stands at the place k, with this stack -/
structure LineAt (n k : Nat) (s : Stk) (d : Nat) (m : Vs) : Prop where
  rs : m.rs.length = n
  wt : ∀ i, m.wt[i]? = if i < n then some (decide (i = k)) else none
  here : m.at k = some s
  far : ∀ i, k < i → m.at i = none
  dp : m.dp = d
theorem LineAt.least {n k d : Nat} {s : Stk} {m : Vs} (h : LineAt n k s d m) (hk : k < n) : leastS m.wt = some k := by
  refine least_of _ _ ?_ fun j hj => ?_
  · rw [h.wt, if_pos hk]; simp
  · rw [h.wt, if_pos (by omega)]; simp; omega
theorem line_start {n : Nat} (hn : 0 < n) : LineAt n 0 [] 0 (startS n) := by
  refine ⟨by simp [startS], fun i => ?_, ?_, fun i hi => ?_, rfl⟩
  · show ((List.replicate n false).set 0 true)[i]? = _
    rw [List.getElem?_set, List.getElem?_replicate]
    by_cases h : 0 = i
    · subst h; simp [hn]
    · rw [if_neg h]
      by_cases hi : i < n
      · rw [if_pos hi, if_pos hi, decide_eq_false (by omega)]
      · rw [if_neg hi, if_neg hi]
  · show ((List.replicate n none).set 0 (some [])).getD 0 none = _
    rw [getD_set, if_pos ⟨rfl, by simpa using hn⟩]
  · show ((List.replicate n none).set 0 (some [])).getD i none = _
    rw [getD_set, if_neg (by omega)]
    exact blank_get n i
/-- one step further -/
theorem line_next {ty : List Int} {cd : List Ins} {n k d c : Nat} {s t : Stk} {m : Vs} (hn : cd.length = n) (h : LineAt n k s d m) (hk : k + 1 < n) (hp : passS ty (insAt cd k) s = some t) (hg : goesS k (insAt cd k) = [k + 1]) :
    ∃ m', runS ty cd (c + 1) m = runS ty cd c m' ∧ LineAt n (k + 1) t (max d t.length) m' := by
  have hl := h.least (by omega)
  have hw : m.wt.length = n := by
    have h1 := h.wt n
    rw [if_neg (Nat.lt_irrefl n)] at h1
    have h2 := List.getElem?_eq_none_iff.1 h1
    by_cases e : m.wt.length = n
    · exact e
    · have h3 := h.wt m.wt.length
      rw [List.getElem?_eq_none (Nat.le_refl _), if_pos (by omega)] at h3; cases h3
  refine ⟨⟨m.rs.set (k + 1) (some t), (m.wt.set k false).set (k + 1) true, max m.dp t.length⟩, ?_, ?_⟩
  · rw [run_some hl]
    have : lookS ty cd (offS m k) k = .inl ⟨m.rs.set (k + 1) (some t), (m.wt.set k false).set (k + 1) true, max m.dp t.length⟩ := by
      have ha : (offS m k).at k = some s := h.here
      have hf : (⟨m.rs, m.wt.set k false, max m.dp t.length⟩ : Vs).at (k + 1) = none := h.far (k + 1) (by omega)
      unfold lookS
      rw [ha]
      simp only [Option.getD_some, hp, hg]
      show followS cd.length k t [k + 1] ⟨m.rs, m.wt.set k false, max m.dp t.length⟩ = _
      unfold followS
      rw [if_neg (by omega)]
      have hr : reachS ⟨m.rs, m.wt.set k false, max m.dp t.length⟩ (k + 1) t = some ⟨m.rs.set (k + 1) (some t), (m.wt.set k false).set (k + 1) true, max m.dp t.length⟩ := by
        unfold reachS; rw [hf]
      rw [hr]; rfl
    rw [this]
  · refine ⟨by simp [h.rs], fun i => ?_, ?_, fun i hi => ?_, by rw [h.dp]⟩
    · show ((m.wt.set k false).set (k + 1) true)[i]? = _
      rw [List.getElem?_set, List.getElem?_set, h.wt]
      by_cases e : k + 1 = i
      · subst e; rw [if_pos rfl, if_pos (by rw [List.length_set, hw]; exact hk), if_pos hk]; simp
      · rw [if_neg e]
        by_cases e2 : k = i
        · subst e2; rw [if_pos rfl, if_pos (by omega), if_pos (by omega)]; simp
        · rw [if_neg e2]
          by_cases hi : i < n
          · rw [if_pos hi, if_pos hi, decide_eq_false (by omega), decide_eq_false (by omega)]
          · rw [if_neg hi, if_neg hi]
    · show (m.rs.set (k + 1) (some t)).getD (k + 1) none = _
      rw [getD_set, if_pos ⟨rfl, by rw [h.rs]; exact hk⟩]
    · show (m.rs.set (k + 1) (some t)).getD i none = _
      rw [getD_set, if_neg (by omega)]
      exact h.far i (by omega)
theorem line_bad {ty : List Int} {cd : List Ins} {n k d c : Nat} {s : Stk} {m : Vs} (h : LineAt n k s d m) (hk : k < n) (hp : passS ty (insAt cd k) s = none) : runS ty cd (c + 1) m = .inr ((k : Int), 151) := by
  rw [run_some (h.least hk)]
  have : lookS ty cd (offS m k) k = .inr ((k : Int), 151) := by
    have ha : (offS m k).at k = some s := h.here
    unfold lookS
    rw [ha]
    simp only [Option.getD_some, hp]
  rw [this]
theorem line_end {ty : List Int} {cd : List Ins} {n k d c : Nat} {s : Stk} {m : Vs} (h : LineAt n k s d m) (hk : k < n) (he : insAt cd k = ⟨12, 0, 0, 0⟩) : ∃ m', runS ty cd (c + 1) m = .inl m' ∧ m'.dp = max d s.length := by
  rw [run_some (h.least hk)]
  have : lookS ty cd (offS m k) k = .inl ⟨m.rs, m.wt.set k false, max m.dp s.length⟩ := by
    have ha : (offS m k).at k = some s := h.here
    unfold lookS
    rw [ha, he]; rfl
  rw [this]
  have hn : leastS (m.wt.set k false) = none := by
    refine least_of_none _ fun j hj => ?_
    have hj' : j < m.wt.length := by simpa using hj
    rw [List.getElem?_set]
    by_cases e : k = j
    · subst e; rw [if_pos rfl, if_pos hj']
    · rw [if_neg e]
      have := h.wt j
      rw [List.getElem?_eq_getElem hj'] at this ⊢
      by_cases hjn : j < n
      · rw [if_pos hjn, decide_eq_false (by omega)] at this; exact this
      · rw [if_neg hjn] at this; cases this
  exact ⟨_, run_none hn, by show max m.dp s.length = _; rw [h.dp]⟩
theorem bad_all {ty : List Int} {m : Nat} : ∀ (l : List Ins) (k : Nat), (∀ i ∈ l, mayI ty m i = true) → badAt ty m k l = none
  | [], _, _ => rfl
  | i :: r, k, h => by
    rw [bad_next (h i (by simp))]
    exact bad_all r (k + 1) (fun j hj => h j (by simp [hj]))
/-! pushes and stores -/
def pushI : Ins := ⟨1, 2, 0, 1⟩
def storeI : Ins := ⟨3, 1, 0, 0⟩
def endI : Ins := ⟨12, 0, 0, 0⟩
theorem of_chk {l : List Ins} (h0 : 0 < l.length) (h1 : l.length ≤ 4096) (h : ∀ i ∈ l, i = pushI ∨ i = storeI ∨ i = endI) : (chkP (ofP l)).2 = 0 := by
  have hf : frameB (ofP l) = true := by
    unfold frameB
    simp only [Bool.and_eq_true, decide_eq_true_eq]
    exact ⟨by show Ex.nameB [80] = true; decide +kernel, by show cellB ⟨[80], [1, 2], [0, 0], [], [], l⟩ = true; simp [cellB]; decide, by show lineB 2 [] [] = true; rfl, h0, h1⟩
  unfold chkP
  rw [if_pos hf]
  have : badAt (ofP l).ty (ofP l).cd.length 0 (ofP l).cd = none := bad_all _ _ fun i hi => by
    show mayI [1, 2] l.length i = true
    rcases h i hi with rfl | rfl | rfl
    · rfl
    · rfl
    · rfl
  rw [this]
theorem of_walk {l : List Ins} (h0 : 0 < l.length) (h1 : l.length ≤ 4096) (h : ∀ i ∈ l, i = pushI ∨ i = storeI ∨ i = endI) : walkP (ofP l) = runS [1, 2] l l.length (startS l.length) := by
  unfold walkP
  rw [if_pos (of_chk h0 h1 h)]; rfl
theorem push_pass {s : Stk} (h : s.length < 64) : passS [1, 2] pushI s = some (s ++ [2]) := by
  show leaveS 2 s = _
  unfold leaveS; rw [if_neg (by omega)]
theorem push_full {s : Stk} (h : s.length = 64) : passS [1, 2] pushI s = none := by
  show leaveS 2 s = _
  unfold leaveS; rw [if_pos h]
theorem rep_snoc (k : Nat) : List.replicate k (2 : Int) ++ [2] = List.replicate (k + 1) 2 := by rw [List.replicate_succ']
theorem store_pass (k : Nat) : passS [1, 2] storeI (List.replicate (k + 1) 2) = some (List.replicate k 2) := by
  show takeS [2] (List.replicate (k + 1) 2) = _
  unfold takeS
  rw [List.replicate_succ', List.getLast?_concat]
  show (if [2].contains (2 : Int) = true then _ else _) = _
  rw [if_pos (by decide), List.dropLast_concat]
theorem store_none : passS [1, 2] storeI [] = none := rfl
theorem ins_of {l : List Ins} {k : Nat} {i : Ins} (h : l[k]? = some i) : insAt l k = i := by
  unfold insAt; rw [List.getD_eq_getElem?_getD, h]; rfl
/-- behind so many pushes -/
theorem push_line {l : List Ins} {n : Nat} (hp : ∀ k, k < n → l[k]? = some pushI) (hl : n < l.length) : ∀ j, j ≤ n → j ≤ 64 → ∃ m, runS [1, 2] l l.length (startS l.length) = runS [1, 2] l (l.length - j) m ∧ LineAt l.length j (List.replicate j 2) j m
  | 0, _, _ => ⟨_, rfl, line_start (by omega)⟩
  | j + 1, h, h64 => by
    obtain ⟨m, h1, h2⟩ := push_line hp hl j (by omega) (by omega)
    obtain ⟨m', h3, h4⟩ := line_next (ty := [1, 2]) (cd := l) (c := l.length - (j + 1)) (t := List.replicate (j + 1) 2) rfl h2 (by omega) (by rw [ins_of (hp j (by omega)), push_pass (by simp; omega), rep_snoc]) (by rw [ins_of (hp j (by omega))]; rfl)
    refine ⟨m', ?_, ?_⟩
    · rw [h1, show l.length - j = l.length - (j + 1) + 1 by omega, h3]
    · rw [show max j (List.replicate (j + 1) (2 : Int)).length = j + 1 by simp] at h4; exact h4
theorem store_line {l : List Ins} {n : Nat} (h64 : n ≤ 64) (hp : ∀ k, k < n → l[k]? = some pushI) (hs : ∀ k, k < n → l[n + k]? = some storeI) (hl : n + n < l.length) : ∀ j, j ≤ n → ∃ m, runS [1, 2] l l.length (startS l.length) = runS [1, 2] l (l.length - (n + j)) m ∧ LineAt l.length (n + j) (List.replicate (n - j) 2) n m
  | 0, _ => by
    obtain ⟨m, h1, h2⟩ := push_line hp (by omega) n (Nat.le_refl _) h64
    exact ⟨m, h1, h2⟩
  | j + 1, h => by
    obtain ⟨m, h1, h2⟩ := store_line h64 hp hs hl j (by omega)
    obtain ⟨m', h3, h4⟩ := line_next (ty := [1, 2]) (cd := l) (c := l.length - (n + (j + 1))) (t := List.replicate (n - (j + 1)) 2) rfl h2 (by omega) (by rw [ins_of (hs j (by omega)), show n - j = n - (j + 1) + 1 by omega]; exact store_pass _) (by rw [ins_of (hs j (by omega))]; rfl)
    refine ⟨m', ?_, ?_⟩
    · rw [h1, show l.length - (n + j) = l.length - (n + (j + 1)) + 1 by omega, h3]
    · rw [show max n (List.replicate (n - (j + 1)) (2 : Int)).length = n by simp] at h4; exact h4
end Go.Proofs.YtlckedionmgjjaaDoor
namespace Go.Proofs.YtlckedionmgjjaaDoor
open Go.RowKit
def pushL (n : Nat) : List Ins := List.replicate n pushI
def bothL (n k : Nat) : List Ins := pushL n ++ List.replicate k storeI
theorem push_get (n k : Nat) (h : k < n) (r : List Ins) : (pushL n ++ r)[k]? = some pushI := by
  rw [List.getElem?_append_left (by simp [pushL, h])]; simp [pushL, h]
theorem both_get (n k : Nat) (h : k < n) (r : List Ins) : (bothL n n ++ r)[k]? = some pushI := by
  unfold bothL; rw [List.append_assoc]; exact push_get n k h _
theorem both_get2 (n k : Nat) (h : k < n) (r : List Ins) : (bothL n n ++ r)[n + k]? = some storeI := by
  unfold bothL
  rw [List.append_assoc, List.getElem?_append_right (by simp [pushL]), List.getElem?_append_left (by simp [pushL, h])]
  simp [pushL, h]
theorem push_mem {n : Nat} {r : List Ins} (h : ∀ i ∈ r, i = pushI ∨ i = storeI ∨ i = endI) : ∀ i ∈ pushL n ++ r, i = pushI ∨ i = storeI ∨ i = endI := fun i hi => by
  rcases List.mem_append.1 hi with hi | hi
  · exact .inl (List.eq_of_mem_replicate hi)
  · exact h i hi
theorem both_mem {n k : Nat} {r : List Ins} (h : ∀ i ∈ r, i = pushI ∨ i = storeI ∨ i = endI) : ∀ i ∈ bothL n k ++ r, i = pushI ∨ i = storeI ∨ i = endI := fun i hi => by
  rw [bothL, List.append_assoc] at hi
  refine push_mem (fun j hj => ?_) i hi
  rcases List.mem_append.1 hj with hj | hj
  · exact .inr (.inl (List.eq_of_mem_replicate hj))
  · exact h j hj
theorem errP_of {x : Img} {q : Int × Int} (h : walkP x = .inr q) : errP x = q := by unfold errP; rw [h]
theorem errP_ok {x : Img} {m : Vs} (h : walkP x = .inl m) : errP x = (0, 0) := by unfold errP; rw [h]
theorem pushes_ok {n : Nat} (h : n ≤ 64) : errP (ofP (pushL n ++ [endI])) = (0, 0) := by
  have hl : (pushL n ++ [endI]).length = n + 1 := by simp [pushL]
  have hw := of_walk (l := pushL n ++ [endI]) (by omega) (by omega) (push_mem (by simp))
  obtain ⟨m, h1, h2⟩ := push_line (l := pushL n ++ [endI]) (n := n) (fun k hk => push_get n k hk _) (by omega) n (Nat.le_refl _) h
  obtain ⟨m', h3, -⟩ := line_end (ty := [1, 2]) (cd := pushL n ++ [endI]) (c := 0) h2 (by omega) (ins_of (by rw [List.getElem?_append_right (by simp [pushL])]; simp [pushL]; rfl))
  refine errP_ok (m := m') ?_
  rw [hw, h1, show (pushL n ++ [endI]).length - n = 0 + 1 by omega, h3]
theorem pushes_many {n : Nat} (h : 64 < n) (h4 : n < 4096) : errP (ofP (pushL n ++ [endI])) = (64, 151) := by
  have hl : (pushL n ++ [endI]).length = n + 1 := by simp [pushL]
  have hw := of_walk (l := pushL n ++ [endI]) (by omega) (by omega) (push_mem (by simp))
  obtain ⟨m, h1, h2⟩ := push_line (l := pushL n ++ [endI]) (n := n) (fun k hk => push_get n k hk _) (by omega) 64 (by omega) (Nat.le_refl _)
  have h3 := line_bad (ty := [1, 2]) (cd := pushL n ++ [endI]) (c := n - 64) h2 (by omega) (by rw [ins_of (push_get n 64 h _)]; exact push_full (by simp))
  refine errP_of ?_
  rw [hw, h1, show (pushL n ++ [endI]).length - 64 = n - 64 + 1 by omega, h3]; rfl
theorem stores_deep {n : Nat} (h : n ≤ 64) : deepP (ofP (bothL n n ++ [endI])) = ((n : Int), 0) := by
  have hl : (bothL n n ++ [endI]).length = n + n + 1 := by simp [bothL, pushL]; omega
  have hw := of_walk (l := bothL n n ++ [endI]) (by omega) (by omega) (both_mem (by simp))
  obtain ⟨m, h1, h2⟩ := store_line (l := bothL n n ++ [endI]) h (fun k hk => both_get n k hk _) (fun k hk => both_get2 n k hk _) (by omega) n (Nat.le_refl _)
  obtain ⟨m', h3, h4⟩ := line_end (ty := [1, 2]) (cd := bothL n n ++ [endI]) (c := 0) h2 (by omega) (ins_of (by rw [List.getElem?_append_right (by simp [bothL, pushL])]; simp [bothL, pushL]; rfl))
  unfold deepP
  rw [hw, h1, show (bothL n n ++ [endI]).length - (n + n) = 0 + 1 by omega, h3]
  show ((m'.dp : Int), (0 : Int)) = _
  rw [h4]; simp
theorem stores_more {n : Nat} (h : n ≤ 64) : errP (ofP (bothL n n ++ [storeI, endI])) = (2 * (n : Int), 151) := by
  have hl : (bothL n n ++ [storeI, endI]).length = n + n + 2 := by simp [bothL, pushL]; omega
  have hw := of_walk (l := bothL n n ++ [storeI, endI]) (by omega) (by omega) (both_mem (by simp))
  obtain ⟨m, h1, h2⟩ := store_line (l := bothL n n ++ [storeI, endI]) h (fun k hk => both_get n k hk _) (fun k hk => both_get2 n k hk _) (by omega) n (Nat.le_refl _)
  have h3 := line_bad (ty := [1, 2]) (cd := bothL n n ++ [storeI, endI]) (c := 1) h2 (by omega) (by
    rw [ins_of (i := storeI) (by rw [List.getElem?_append_right (by simp [bothL, pushL])]; simp [bothL, pushL]), Nat.sub_self]; rfl)
  refine errP_of ?_
  rw [hw, h1, show (bothL n n ++ [storeI, endI]).length - (n + n) = 1 + 1 by omega, h3]
  congr 2
  omega
theorem inC_snoc (l : List Ins) (i : Ins) : inC (l ++ [i]) = inC l ++ [.int .i64 i.op, .int .i64 i.a, .int .i64 i.b, .int .i64 i.n] := inC_one l i
theorem push_succ (k : Nat) : pushL (k + 1) = pushL k ++ [pushI] := by unfold pushL; rw [List.replicate_succ']
theorem both_succ (n k : Nat) : bothL n (k + 1) = bothL n k ++ [storeI] := by unfold bothL; rw [List.replicate_succ', List.append_assoc]
theorem mod70 (n : Int) : ∃ q : Nat, q < 70 ∧ (IntKind.u64.wrap n).tmod 70 = (q : Int) := by
  rw [IntKind.wrap_u64]
  have h0 : 0 ≤ n % 18446744073709551616 := by omega
  rw [Int.tmod_eq_emod_of_nonneg h0]
  exact ⟨(n % 18446744073709551616 % 70).toNat, by omega, by omega⟩
end Go.Proofs.YtlckedionmgjjaaDoor
