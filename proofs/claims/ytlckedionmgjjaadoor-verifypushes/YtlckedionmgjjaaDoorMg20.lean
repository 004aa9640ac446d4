/- Code without jumps, looked at (plain). | VerifyPushes: what it decides (plain). | verify's laws: works. | The document's cells: plain. -/
import Derived.Test.YtlckedionmgjjaaDoorMg19
import Derived.Test.YtlckedionmgjjaaDoorMg13
import Derived.Test.YtlckedionmgjjaaDoorMg18
import Derived.Deep.QuietTactic
import Derived.BigQuiet
namespace Go.Proofs.YtlckedionmgjjaaDoor
open Go.RowKit
/-- a walk that stands at the place k, with this stack -/
structure LineAt (n k : Nat) (s : Stk) (d : Nat) (m : Vs) : Prop where
  rs : m.rs.length = n
  wt : ∀ i, m.wt[i]? = if i < n then some (decide (i = k)) else none
  here : m.at k = some s
  far : ∀ i, k < i → m.at i = none
  dp : m.dp = d
theorem LineAt.least {n k d : Nat} {s : Stk} {m : Vs} (h : LineAt n k s d m) (hk : k < n) : leastS m.wt = some k := by
  refine least_of _ _ ?_ fun j hj => ?_
  · rw [h.wt, if_pos hk]; simp
  · rw [h.wt, if_pos (by omega)]; simp; omega
theorem line_start {n : Nat} (hn : 0 < n) : LineAt n 0 [] 0 (startS n) := by
  refine ⟨by simp [startS], fun i => ?_, ?_, fun i hi => ?_, rfl⟩
  · show ((List.replicate n false).set 0 true)[i]? = _
    rw [List.getElem?_set, List.getElem?_replicate]
    by_cases h : 0 = i
    · subst h; simp [hn]
    · rw [if_neg h]
      by_cases hi : i < n
      · rw [if_pos hi, if_pos hi, decide_eq_false (by omega)]
      · rw [if_neg hi, if_neg hi]
  · show ((List.replicate n none).set 0 (some [])).getD 0 none = _
    rw [getD_set, if_pos ⟨rfl, by simpa using hn⟩]
  · show ((List.replicate n none).set 0 (some [])).getD i none = _
    rw [getD_set, if_neg (by omega)]
    exact blank_get n i
/-- one step further -/
theorem line_next {ty : List Int} {cd : List Ins} {n k d c : Nat} {s t : Stk} {m : Vs} (hn : cd.length = n) (h : LineAt n k s d m) (hk : k + 1 < n) (hp : passS ty (insAt cd k) s = some t) (hg : goesS k (insAt cd k) = [k + 1]) :
    ∃ m', runS ty cd (c + 1) m = runS ty cd c m' ∧ LineAt n (k + 1) t (max d t.length) m' := by
  have hl := h.least (by omega)
  have hw : m.wt.length = n := by
    have h1 := h.wt n
    rw [if_neg (Nat.lt_irrefl n)] at h1
    have h2 := List.getElem?_eq_none_iff.1 h1
    by_cases e : m.wt.length = n
    · exact e
    · have h3 := h.wt m.wt.length
      rw [List.getElem?_eq_none (Nat.le_refl _), if_pos (by omega)] at h3; cases h3
  refine ⟨⟨m.rs.set (k + 1) (some t), (m.wt.set k false).set (k + 1) true, max m.dp t.length⟩, ?_, ?_⟩
  · rw [run_some hl]
    have : lookS ty cd (offS m k) k = .inl ⟨m.rs.set (k + 1) (some t), (m.wt.set k false).set (k + 1) true, max m.dp t.length⟩ := by
      have ha : (offS m k).at k = some s := h.here
      have hf : (⟨m.rs, m.wt.set k false, max m.dp t.length⟩ : Vs).at (k + 1) = none := h.far (k + 1) (by omega)
      unfold lookS
      rw [ha]
      simp only [Option.getD_some, hp, hg]
      show followS cd.length k t [k + 1] ⟨m.rs, m.wt.set k false, max m.dp t.length⟩ = _
      unfold followS
      rw [if_neg (by omega)]
      have hr : reachS ⟨m.rs, m.wt.set k false, max m.dp t.length⟩ (k + 1) t = some ⟨m.rs.set (k + 1) (some t), (m.wt.set k false).set (k + 1) true, max m.dp t.length⟩ := by
        unfold reachS; rw [hf]
      rw [hr]; rfl
    rw [this]
  · refine ⟨by simp [h.rs], fun i => ?_, ?_, fun i hi => ?_, by rw [h.dp]⟩
    · show ((m.wt.set k false).set (k + 1) true)[i]? = _
      rw [List.getElem?_set, List.getElem?_set, h.wt]
      by_cases e : k + 1 = i
      · subst e; rw [if_pos rfl, if_pos (by rw [List.length_set, hw]; exact hk), if_pos hk]; simp
      · rw [if_neg e]
        by_cases e2 : k = i
        · subst e2; rw [if_pos rfl, if_pos (by omega), if_pos (by omega)]; simp
        · rw [if_neg e2]
          by_cases hi : i < n
          · rw [if_pos hi, if_pos hi, decide_eq_false (by omega), decide_eq_false (by omega)]
          · rw [if_neg hi, if_neg hi]
    · show (m.rs.set (k + 1) (some t)).getD (k + 1) none = _
      rw [getD_set, if_pos ⟨rfl, by rw [h.rs]; exact hk⟩]
    · show (m.rs.set (k + 1) (some t)).getD i none = _
      rw [getD_set, if_neg (by omega)]
      exact h.far i (by omega)
theorem line_bad {ty : List Int} {cd : List Ins} {n k d c : Nat} {s : Stk} {m : Vs} (h : LineAt n k s d m) (hk : k < n) (hp : passS ty (insAt cd k) s = none) : runS ty cd (c + 1) m = .inr ((k : Int), 151) := by
  rw [run_some (h.least hk)]
  have : lookS ty cd (offS m k) k = .inr ((k : Int), 151) := by
    have ha : (offS m k).at k = some s := h.here
    unfold lookS
    rw [ha]
    simp only [Option.getD_some, hp]
  rw [this]
theorem line_end {ty : List Int} {cd : List Ins} {n k d c : Nat} {s : Stk} {m : Vs} (h : LineAt n k s d m) (hk : k < n) (he : insAt cd k = ⟨12, 0, 0, 0⟩) : ∃ m', runS ty cd (c + 1) m = .inl m' ∧ m'.dp = max d s.length := by
  rw [run_some (h.least hk)]
  have : lookS ty cd (offS m k) k = .inl ⟨m.rs, m.wt.set k false, max m.dp s.length⟩ := by
    have ha : (offS m k).at k = some s := h.here
    unfold lookS
    rw [ha, he]; rfl
  rw [this]
  have hn : leastS (m.wt.set k false) = none := by
    refine least_of_none _ fun j hj => ?_
    have hj' : j < m.wt.length := by simpa using hj
    rw [List.getElem?_set]
    by_cases e : k = j
    · subst e; rw [if_pos rfl, if_pos hj']
    · rw [if_neg e]
      have := h.wt j
      rw [List.getElem?_eq_getElem hj'] at this ⊢
      by_cases hjn : j < n
      · rw [if_pos hjn, decide_eq_false (by omega)] at this; exact this
      · rw [if_neg hjn] at this; cases this
  exact ⟨_, run_none hn, by show max m.dp s.length = _; rw [h.dp]⟩
theorem bad_all {ty : List Int} {m : Nat} : ∀ (l : List Ins) (k : Nat), (∀ i ∈ l, mayI ty m i = true) → badAt ty m k l = none
  | [], _, _ => rfl
  | i :: r, k, h => by
    rw [bad_next (h i (by simp))]
    exact bad_all r (k + 1) (fun j hj => h j (by simp [hj]))
/-! pushes and stores -/
def pushI : Ins := ⟨1, 2, 0, 1⟩
def storeI : Ins := ⟨3, 1, 0, 0⟩
def endI : Ins := ⟨12, 0, 0, 0⟩
theorem of_chk {l : List Ins} (h0 : 0 < l.length) (h1 : l.length ≤ 4096) (h : ∀ i ∈ l, i = pushI ∨ i = storeI ∨ i = endI) : (chkP (ofP l)).2 = 0 := by
  have hf : frameB (ofP l) = true := by
    unfold frameB
    simp only [Bool.and_eq_true, decide_eq_true_eq]
    exact ⟨by show Ex.nameB [80] = true; decide +kernel, by show cellB ⟨[80], [1, 2], [0, 0], [], [], l⟩ = true; simp [cellB]; decide, by show lineB 2 [] [] = true; rfl, h0, h1⟩
  unfold chkP
  rw [if_pos hf]
  have : badAt (ofP l).ty (ofP l).cd.length 0 (ofP l).cd = none := bad_all _ _ fun i hi => by
    show mayI [1, 2] l.length i = true
    rcases h i hi with rfl | rfl | rfl
    · rfl
    · rfl
    · rfl
  rw [this]
theorem of_walk {l : List Ins} (h0 : 0 < l.length) (h1 : l.length ≤ 4096) (h : ∀ i ∈ l, i = pushI ∨ i = storeI ∨ i = endI) : walkP (ofP l) = runS [1, 2] l l.length (startS l.length) := by
  unfold walkP
  rw [if_pos (of_chk h0 h1 h)]; rfl
theorem push_pass {s : Stk} (h : s.length < 64) : passS [1, 2] pushI s = some (s ++ [2]) := by
  show leaveS 2 s = _
  unfold leaveS; rw [if_neg (by omega)]
theorem push_full {s : Stk} (h : s.length = 64) : passS [1, 2] pushI s = none := by
  show leaveS 2 s = _
  unfold leaveS; rw [if_pos h]
theorem rep_snoc (k : Nat) : List.replicate k (2 : Int) ++ [2] = List.replicate (k + 1) 2 := by rw [List.replicate_succ']
theorem store_pass (k : Nat) : passS [1, 2] storeI (List.replicate (k + 1) 2) = some (List.replicate k 2) := by
  show takeS [2] (List.replicate (k + 1) 2) = _
  unfold takeS
  rw [List.replicate_succ', List.getLast?_concat]
  show (if [2].contains (2 : Int) = true then _ else _) = _
  rw [if_pos (by decide), List.dropLast_concat]
theorem store_none : passS [1, 2] storeI [] = none := rfl
theorem ins_of {l : List Ins} {k : Nat} {i : Ins} (h : l[k]? = some i) : insAt l k = i := by
  unfold insAt; rw [List.getD_eq_getElem?_getD, h]; rfl
/-- behind so many pushes -/
theorem push_line {l : List Ins} {n : Nat} (hp : ∀ k, k < n → l[k]? = some pushI) (hl : n < l.length) : ∀ j, j ≤ n → j ≤ 64 → ∃ m, runS [1, 2] l l.length (startS l.length) = runS [1, 2] l (l.length - j) m ∧ LineAt l.length j (List.replicate j 2) j m
  | 0, _, _ => ⟨_, rfl, line_start (by omega)⟩
  | j + 1, h, h64 => by
    obtain ⟨m, h1, h2⟩ := push_line hp hl j (by omega) (by omega)
    obtain ⟨m', h3, h4⟩ := line_next (ty := [1, 2]) (cd := l) (c := l.length - (j + 1)) (t := List.replicate (j + 1) 2) rfl h2 (by omega) (by rw [ins_of (hp j (by omega)), push_pass (by simp; omega), rep_snoc]) (by rw [ins_of (hp j (by omega))]; rfl)
    refine ⟨m', ?_, ?_⟩
    · rw [h1, show l.length - j = l.length - (j + 1) + 1 by omega, h3]
    · rw [show max j (List.replicate (j + 1) (2 : Int)).length = j + 1 by simp] at h4; exact h4
theorem store_line {l : List Ins} {n : Nat} (h64 : n ≤ 64) (hp : ∀ k, k < n → l[k]? = some pushI) (hs : ∀ k, k < n → l[n + k]? = some storeI) (hl : n + n < l.length) : ∀ j, j ≤ n → ∃ m, runS [1, 2] l l.length (startS l.length) = runS [1, 2] l (l.length - (n + j)) m ∧ LineAt l.length (n + j) (List.replicate (n - j) 2) n m
  | 0, _ => by
    obtain ⟨m, h1, h2⟩ := push_line hp (by omega) n (Nat.le_refl _) h64
    exact ⟨m, h1, h2⟩
  | j + 1, h => by
    obtain ⟨m, h1, h2⟩ := store_line h64 hp hs hl j (by omega)
    obtain ⟨m', h3, h4⟩ := line_next (ty := [1, 2]) (cd := l) (c := l.length - (n + (j + 1))) (t := List.replicate (n - (j + 1)) 2) rfl h2 (by omega) (by rw [ins_of (hs j (by omega)), show n - j = n - (j + 1) + 1 by omega]; exact store_pass _) (by rw [ins_of (hs j (by omega))]; rfl)
    refine ⟨m', ?_, ?_⟩
    · rw [h1, show l.length - (n + j) = l.length - (n + (j + 1)) + 1 by omega, h3]
    · rw [show max n (List.replicate (n - (j + 1)) (2 : Int)).length = n by simp] at h4; exact h4
end Go.Proofs.YtlckedionmgjjaaDoor
namespace Go.Proofs.YtlckedionmgjjaaDoor
open Go.RowKit
def pushL (n : Nat) : List Ins := List.replicate n pushI
def bothL (n k : Nat) : List Ins := pushL n ++ List.replicate k storeI
theorem push_get (n k : Nat) (h : k < n) (r : List Ins) : (pushL n ++ r)[k]? = some pushI := by
  rw [List.getElem?_append_left (by simp [pushL, h])]; simp [pushL, h]
theorem both_get (n k : Nat) (h : k < n) (r : List Ins) : (bothL n n ++ r)[k]? = some pushI := by
  unfold bothL; rw [List.append_assoc]; exact push_get n k h _
theorem both_get2 (n k : Nat) (h : k < n) (r : List Ins) : (bothL n n ++ r)[n + k]? = some storeI := by
  unfold bothL
  rw [List.append_assoc, List.getElem?_append_right (by simp [pushL]), List.getElem?_append_left (by simp [pushL, h])]
  simp [pushL, h]
theorem push_mem {n : Nat} {r : List Ins} (h : ∀ i ∈ r, i = pushI ∨ i = storeI ∨ i = endI) : ∀ i ∈ pushL n ++ r, i = pushI ∨ i = storeI ∨ i = endI := fun i hi => by
  rcases List.mem_append.1 hi with hi | hi
  · exact .inl (List.eq_of_mem_replicate hi)
  · exact h i hi
theorem both_mem {n k : Nat} {r : List Ins} (h : ∀ i ∈ r, i = pushI ∨ i = storeI ∨ i = endI) : ∀ i ∈ bothL n k ++ r, i = pushI ∨ i = storeI ∨ i = endI := fun i hi => by
  rw [bothL, List.append_assoc] at hi
  refine push_mem (fun j hj => ?_) i hi
  rcases List.mem_append.1 hj with hj | hj
  · exact .inr (.inl (List.eq_of_mem_replicate hj))
  · exact h j hj
theorem errP_of {x : Img} {q : Int × Int} (h : walkP x = .inr q) : errP x = q := by unfold errP; rw [h]
theorem errP_ok {x : Img} {m : Vs} (h : walkP x = .inl m) : errP x = (0, 0) := by unfold errP; rw [h]
theorem pushes_ok {n : Nat} (h : n ≤ 64) : errP (ofP (pushL n ++ [endI])) = (0, 0) := by
  have hl : (pushL n ++ [endI]).length = n + 1 := by simp [pushL]
  have hw := of_walk (l := pushL n ++ [endI]) (by omega) (by omega) (push_mem (by simp))
  obtain ⟨m, h1, h2⟩ := push_line (l := pushL n ++ [endI]) (n := n) (fun k hk => push_get n k hk _) (by omega) n (Nat.le_refl _) h
  obtain ⟨m', h3, -⟩ := line_end (ty := [1, 2]) (cd := pushL n ++ [endI]) (c := 0) h2 (by omega) (ins_of (by rw [List.getElem?_append_right (by simp [pushL])]; simp [pushL]; rfl))
  refine errP_ok (m := m') ?_
  rw [hw, h1, show (pushL n ++ [endI]).length - n = 0 + 1 by omega, h3]
theorem pushes_many {n : Nat} (h : 64 < n) (h4 : n < 4096) : errP (ofP (pushL n ++ [endI])) = (64, 151) := by
  have hl : (pushL n ++ [endI]).length = n + 1 := by simp [pushL]
  have hw := of_walk (l := pushL n ++ [endI]) (by omega) (by omega) (push_mem (by simp))
  obtain ⟨m, h1, h2⟩ := push_line (l := pushL n ++ [endI]) (n := n) (fun k hk => push_get n k hk _) (by omega) 64 (by omega) (Nat.le_refl _)
  have h3 := line_bad (ty := [1, 2]) (cd := pushL n ++ [endI]) (c := n - 64) h2 (by omega) (by rw [ins_of (push_get n 64 h _)]; exact push_full (by simp))
  refine errP_of ?_
  rw [hw, h1, show (pushL n ++ [endI]).length - 64 = n - 64 + 1 by omega, h3]; rfl
theorem stores_deep {n : Nat} (h : n ≤ 64) : deepP (ofP (bothL n n ++ [endI])) = ((n : Int), 0) := by
  have hl : (bothL n n ++ [endI]).length = n + n + 1 := by simp [bothL, pushL]; omega
  have hw := of_walk (l := bothL n n ++ [endI]) (by omega) (by omega) (both_mem (by simp))
  obtain ⟨m, h1, h2⟩ := store_line (l := bothL n n ++ [endI]) h (fun k hk => both_get n k hk _) (fun k hk => both_get2 n k hk _) (by omega) n (Nat.le_refl _)
  obtain ⟨m', h3, h4⟩ := line_end (ty := [1, 2]) (cd := bothL n n ++ [endI]) (c := 0) h2 (by omega) (ins_of (by rw [List.getElem?_append_right (by simp [bothL, pushL])]; simp [bothL, pushL]; rfl))
  unfold deepP
  rw [hw, h1, show (bothL n n ++ [endI]).length - (n + n) = 0 + 1 by omega, h3]
  show ((m'.dp : Int), (0 : Int)) = _
  rw [h4]; simp
theorem stores_more {n : Nat} (h : n ≤ 64) : errP (ofP (bothL n n ++ [storeI, endI])) = (2 * (n : Int), 151) := by
  have hl : (bothL n n ++ [storeI, endI]).length = n + n + 2 := by simp [bothL, pushL]; omega
  have hw := of_walk (l := bothL n n ++ [storeI, endI]) (by omega) (by omega) (both_mem (by simp))
  obtain ⟨m, h1, h2⟩ := store_line (l := bothL n n ++ [storeI, endI]) h (fun k hk => both_get n k hk _) (fun k hk => both_get2 n k hk _) (by omega) n (Nat.le_refl _)
  have h3 := line_bad (ty := [1, 2]) (cd := bothL n n ++ [storeI, endI]) (c := 1) h2 (by omega) (by
    rw [ins_of (i := storeI) (by rw [List.getElem?_append_right (by simp [bothL, pushL])]; simp [bothL, pushL]), Nat.sub_self]; rfl)
  refine errP_of ?_
  rw [hw, h1, show (bothL n n ++ [storeI, endI]).length - (n + n) = 1 + 1 by omega, h3]
  congr 2
  omega
theorem inC_snoc (l : List Ins) (i : Ins) : inC (l ++ [i]) = inC l ++ [.int .i64 i.op, .int .i64 i.a, .int .i64 i.b, .int .i64 i.n] := inC_one l i
theorem push_succ (k : Nat) : pushL (k + 1) = pushL k ++ [pushI] := by unfold pushL; rw [List.replicate_succ']
theorem both_succ (n k : Nat) : bothL n (k + 1) = bothL n k ++ [storeI] := by unfold bothL; rw [List.replicate_succ', List.append_assoc]
theorem mod70 (n : Int) : ∃ q : Nat, q < 70 ∧ (IntKind.u64.wrap n).tmod 70 = (q : Int) := by
  rw [IntKind.wrap_u64]
  have h0 : 0 ≤ n % 18446744073709551616 := by omega
  rw [Int.tmod_eq_emod_of_nonneg h0]
  exact ⟨(n % 18446744073709551616 % 70).toNat, by omega, by omega⟩
end Go.Proofs.YtlckedionmgjjaaDoor
namespace Go.Proofs.YtlckedionmgjjaaDoor
open Go.RowKit
set_option maxRecDepth 100000 in
set_option maxHeartbeats 3200000 in
theorem works_any (w : World) (hg : GlC w) (hz : Tz w) : Calls Tryd.prog 14 #[] w fun e w' => e = .returned (.bool true) ∧ Below w.heap.size w w' := by
  have P0 : Hid (∀ A, Ob ((w.alloc (.cells #[.int .i64 1, .int .i64 2, .int .i64 0, .int .i64 0] 38)).alloc A) w.heap.size 38 [.int .i64 1, .int .i64 2, .int .i64 0, .int .i64 0]) := fun A => (Ob.new w 38 _).on ((Below.refl _ _).alloc (Nat.le_refl _) _) (by simp)
  have E0 : Hid (∀ A, Ob ((w.alloc A).alloc (.cells #[.int .i64 12, .int .i64 0, .int .i64 0, .int .i64 0] 38)) (w.heap.size + 1) 38 [.int .i64 12, .int .i64 0, .int .i64 0, .int .i64 0]) := fun A => Four.two_at w _ _
  have B0 : Hid (∀ A C, Below w.heap.size w ((w.alloc A).alloc C)) := fun A C => ((Below.refl _ _).alloc (Nat.le_refl _) _).alloc (by simp) _
  have G := hide hg
  have Z := hide hz
  clear hg hz
  go_enter Tryd.func14, Tryd.ntmps14
  go_wp2_with fail
  refine (of_any _ [⟨1, 2, 0, 0⟩, ⟨12, 0, 0, 0⟩] _ (ist_new (by simp) (by rfl) (by rfl))).mono ?_
  rintro e v0 ⟨ta0, fa0, rfl, im0, bo0⟩
  have PB0 := hide (ob_step (P0.out _) bo0)
  have EB0 := hide (ob_step (E0.out _) bo0)
  have BB0 := hide (below_step (B0.out _ _) bo0)
  have IM0 := hide im0
  clear bo0 im0
  go_wp2_with fail
  refine (check_of G.out Z.out BB0.out (by simp) IM0.out works1).mono ?_
  rintro e u1 ⟨rfl, bc0⟩
  have P1 := hide (PB0.out.on bc0 PB0.out.lt)
  have E1 := hide (EB0.out.on bc0 EB0.out.lt)
  have B1 := hide (BB0.out.trans (bc0.mono BB0.out.size))
  clear bc0
  have p00 : u1.cell? ⟨w.heap.size, 0, none⟩ = some (.int .i64 1) := P1.out.cell 0 rfl
  have p01 : u1.cell? ⟨w.heap.size, 1, none⟩ = some (.int .i64 2) := P1.out.cell 1 rfl
  have p02 : u1.cell? ⟨w.heap.size, 2, none⟩ = some (.int .i64 0) := P1.out.cell 2 rfl
  have p03 : u1.cell? ⟨w.heap.size, 3, none⟩ = some (.int .i64 0) := P1.out.cell 3 rfl
  have e00 : u1.cell? ⟨w.heap.size + 1, 0, none⟩ = some (.int .i64 12) := E1.out.cell 0 rfl
  have e01 : u1.cell? ⟨w.heap.size + 1, 1, none⟩ = some (.int .i64 0) := E1.out.cell 1 rfl
  have e02 : u1.cell? ⟨w.heap.size + 1, 2, none⟩ = some (.int .i64 0) := E1.out.cell 2 rfl
  have e03 : u1.cell? ⟨w.heap.size + 1, 3, none⟩ = some (.int .i64 0) := E1.out.cell 3 rfl
  go_wp2_with fail
  refine (of_any _ [⟨1, 2, 0, 0⟩, ⟨12, 0, 0, 0⟩] _ (ist_new (by simp) (by rfl) (by rfl))).mono ?_
  rintro e v1 ⟨ta1, fa1, rfl, im1, bo1⟩
  have PB1 := hide (ob_step P1.out bo1)
  have EB1 := hide (ob_step E1.out bo1)
  have BB1 := hide (below_step B1.out bo1)
  have IM1 := hide im1
  clear bo1 im1
  go_wp2_with fail
  refine (deep_of G.out Z.out BB1.out (by simp) IM1.out works2).mono ?_
  rintro e u2 ⟨rfl, bc1⟩
  have P2 := hide (PB1.out.on bc1 PB1.out.lt)
  have E2 := hide (EB1.out.on bc1 EB1.out.lt)
  have B2 := hide (BB1.out.trans (bc1.mono BB1.out.size))
  clear bc1
  have p10 : u2.cell? ⟨w.heap.size, 0, none⟩ = some (.int .i64 1) := P2.out.cell 0 rfl
  have p11 : u2.cell? ⟨w.heap.size, 1, none⟩ = some (.int .i64 2) := P2.out.cell 1 rfl
  have p12 : u2.cell? ⟨w.heap.size, 2, none⟩ = some (.int .i64 0) := P2.out.cell 2 rfl
  have p13 : u2.cell? ⟨w.heap.size, 3, none⟩ = some (.int .i64 0) := P2.out.cell 3 rfl
  have e10 : u2.cell? ⟨w.heap.size + 1, 0, none⟩ = some (.int .i64 12) := E2.out.cell 0 rfl
  have e11 : u2.cell? ⟨w.heap.size + 1, 1, none⟩ = some (.int .i64 0) := E2.out.cell 1 rfl
  have e12 : u2.cell? ⟨w.heap.size + 1, 2, none⟩ = some (.int .i64 0) := E2.out.cell 2 rfl
  have e13 : u2.cell? ⟨w.heap.size + 1, 3, none⟩ = some (.int .i64 0) := E2.out.cell 3 rfl
  go_wp2_with fail
  refine (of_any _ [⟨6, 1, 2, 0⟩, ⟨12, 0, 0, 0⟩] _ (ist_new (by simp) (by rfl) (by rfl))).mono ?_
  rintro e v2 ⟨ta2, fa2, rfl, im2, bo2⟩
  have PB2 := hide (ob_step P2.out bo2)
  have EB2 := hide (ob_step E2.out bo2)
  have BB2 := hide (below_step B2.out bo2)
  have IM2 := hide im2
  clear bo2 im2
  go_wp2_with fail
  refine (check_of G.out Z.out BB2.out (by simp) IM2.out works3).mono ?_
  rintro e u3 ⟨rfl, bc2⟩
  have P3 := hide (PB2.out.on bc2 PB2.out.lt)
  have E3 := hide (EB2.out.on bc2 EB2.out.lt)
  have B3 := hide (BB2.out.trans (bc2.mono BB2.out.size))
  clear bc2
  have p20 : u3.cell? ⟨w.heap.size, 0, none⟩ = some (.int .i64 1) := P3.out.cell 0 rfl
  have p21 : u3.cell? ⟨w.heap.size, 1, none⟩ = some (.int .i64 2) := P3.out.cell 1 rfl
  have p22 : u3.cell? ⟨w.heap.size, 2, none⟩ = some (.int .i64 0) := P3.out.cell 2 rfl
  have p23 : u3.cell? ⟨w.heap.size, 3, none⟩ = some (.int .i64 0) := P3.out.cell 3 rfl
  have e20 : u3.cell? ⟨w.heap.size + 1, 0, none⟩ = some (.int .i64 12) := E3.out.cell 0 rfl
  have e21 : u3.cell? ⟨w.heap.size + 1, 1, none⟩ = some (.int .i64 0) := E3.out.cell 1 rfl
  have e22 : u3.cell? ⟨w.heap.size + 1, 2, none⟩ = some (.int .i64 0) := E3.out.cell 2 rfl
  have e23 : u3.cell? ⟨w.heap.size + 1, 3, none⟩ = some (.int .i64 0) := E3.out.cell 3 rfl
  go_wp2_with fail
  refine (of_any _ [⟨1, 2, 0, 0⟩] _ (ist_new (by simp) (by rfl) (by rfl))).mono ?_
  rintro e v3 ⟨ta3, fa3, rfl, im3, bo3⟩
  have PB3 := hide (ob_step P3.out bo3)
  have EB3 := hide (ob_step E3.out bo3)
  have BB3 := hide (below_step B3.out bo3)
  have IM3 := hide im3
  clear bo3 im3
  go_wp2_with fail
  refine (check_of G.out Z.out BB3.out (by simp) IM3.out works4).mono ?_
  rintro e u4 ⟨rfl, bc3⟩
  have P4 := hide (PB3.out.on bc3 PB3.out.lt)
  have E4 := hide (EB3.out.on bc3 EB3.out.lt)
  have B4 := hide (BB3.out.trans (bc3.mono BB3.out.size))
  clear bc3
  have p30 : u4.cell? ⟨w.heap.size, 0, none⟩ = some (.int .i64 1) := P4.out.cell 0 rfl
  have p31 : u4.cell? ⟨w.heap.size, 1, none⟩ = some (.int .i64 2) := P4.out.cell 1 rfl
  have p32 : u4.cell? ⟨w.heap.size, 2, none⟩ = some (.int .i64 0) := P4.out.cell 2 rfl
  have p33 : u4.cell? ⟨w.heap.size, 3, none⟩ = some (.int .i64 0) := P4.out.cell 3 rfl
  have e30 : u4.cell? ⟨w.heap.size + 1, 0, none⟩ = some (.int .i64 12) := E4.out.cell 0 rfl
  have e31 : u4.cell? ⟨w.heap.size + 1, 1, none⟩ = some (.int .i64 0) := E4.out.cell 1 rfl
  have e32 : u4.cell? ⟨w.heap.size + 1, 2, none⟩ = some (.int .i64 0) := E4.out.cell 2 rfl
  have e33 : u4.cell? ⟨w.heap.size + 1, 3, none⟩ = some (.int .i64 0) := E4.out.cell 3 rfl
  go_wp2_with fail
  refine (of_any _ [⟨2, 0, 0, 0⟩, ⟨10, 0, 0, 0⟩, ⟨12, 0, 0, 0⟩] _ (ist_new (by simp) (by rfl) (by rfl))).mono ?_
  rintro e v4 ⟨ta4, fa4, rfl, im4, bo4⟩
  have PB4 := hide (ob_step P4.out bo4)
  have EB4 := hide (ob_step E4.out bo4)
  have BB4 := hide (below_step B4.out bo4)
  have IM4 := hide im4
  clear bo4 im4
  go_wp2_with fail
  refine (check_of G.out Z.out BB4.out (by simp) IM4.out works5).mono ?_
  rintro e u5 ⟨rfl, bc4⟩
  have P5 := hide (PB4.out.on bc4 PB4.out.lt)
  have E5 := hide (EB4.out.on bc4 EB4.out.lt)
  have B5 := hide (BB4.out.trans (bc4.mono BB4.out.size))
  clear bc4
  go_wp2
  go_ret
  exact ⟨rfl, B5.out⟩
end Go.Proofs.YtlckedionmgjjaaDoor
namespace Go.Proofs.YtlckedionmgjjaaDoor
open Go.RowKit
/-- the first k of a list are cells, none twice -/
def lnP (n : Nat) (l : List Int) (k : Nat) : Prop := ∀ i, i < k → ∃ x, l[i]? = some x ∧ 0 ≤ x ∧ x < (n : Int) ∧ ∀ j, j < i → l[j]? ≠ some x
theorem line_iff (n : Nat) : ∀ (l s : List Int), lineB n s l = true ↔ (∀ i, i < l.length → ∃ x, l[i]? = some x ∧ 0 ≤ x ∧ x < (n : Int) ∧ x ∉ s ∧ ∀ j, j < i → l[j]? ≠ some x)
  | [], s => ⟨fun _ i hi => absurd hi (Nat.not_lt_zero _), fun _ => rfl⟩
  | c :: r, s => by
    have e : lineB n s (c :: r) = (inB c n && (!(s.contains c) && lineB n (c :: s) r)) := rfl
    rw [e]
    simp only [Bool.and_eq_true, Bool.not_eq_true', line_iff n r (c :: s)]
    have hin : inB c n = true ↔ 0 ≤ c ∧ c < (n : Int) := by unfold inB; simp
    rw [hin]
    have hcs : s.contains c = false ↔ c ∉ s := by
      rw [← Bool.not_eq_true, List.contains_iff_mem]
    rw [hcs]
    constructor
    · rintro ⟨⟨h0, h1⟩, h2, h3⟩ i hi
      cases i with
      | zero => exact ⟨c, rfl, h0, h1, h2, fun j hj => absurd hj (Nat.not_lt_zero _)⟩
      | succ i =>
        obtain ⟨x, hx, g0, g1, g2, g3⟩ := h3 i (by simpa using hi)
        refine ⟨x, hx, g0, g1, fun h => g2 (List.mem_cons_of_mem _ h), fun j hj => ?_⟩
        cases j with
        | zero => intro h; exact g2 (by rw [show x = c from (Option.some.inj h).symm]; exact List.mem_cons_self)
        | succ j => exact g3 j (by omega)
    · intro h
      obtain ⟨x, hx, g0, g1, g2, -⟩ := h 0 (by simp)
      obtain rfl := Option.some.inj hx
      refine ⟨⟨g0, g1⟩, g2, fun i hi => ?_⟩
      obtain ⟨y, hy, k0, k1, k2, k3⟩ := h (i + 1) (by simpa using hi)
      refine ⟨y, hy, k0, k1, fun hm => ?_, fun j hj => ?_⟩
      · rcases List.mem_cons.1 hm with rfl | hm
        · exact k3 0 (by omega) rfl
        · exact k2 hm
      · exact k3 (j + 1) (by omega)
theorem line_lnP (n : Nat) (l : List Int) : lineB n [] l = true ↔ lnP n l l.length := by
  rw [line_iff]
  unfold lnP
  constructor
  · intro h i hi
    obtain ⟨x, h1, h2, h3, -, h5⟩ := h i hi
    exact ⟨x, h1, h2, h3, h5⟩
  · intro h i hi
    obtain ⟨x, h1, h2, h3, h5⟩ := h i hi
    exact ⟨x, h1, h2, h3, fun hm => (by cases hm), h5⟩
theorem lnP_next {n : Nat} {l : List Int} {k : Nat} {x : Int} (h : lnP n l k) (hx : l[k]? = some x) (h0 : 0 ≤ x) (h1 : x < (n : Int)) (h2 : ∀ j, j < k → l[j]? ≠ some x) : lnP n l (k + 1) := fun i hi => by
  by_cases e : i = k
  · subst e; exact ⟨x, hx, h0, h1, h2⟩
  · exact h i (by omega)
theorem line_false {n : Nat} {l : List Int} (h : ¬ lnP n l l.length) : lineB n [] l = false := by
  cases hb : lineB n [] l with
  | false => rfl
  | true => exact absurd ((line_lnP n l).1 hb) h
end Go.Proofs.YtlckedionmgjjaaDoor
