/- LwA | RvP | TyP | TzP | NfP | RsP | RsC -/
import Derived.Test.YtldjiieckddhkaaGreatDoorFoW
import Derived.Test.YtldjiieckddhkaaGreatDoorMg26
namespace Go.Proofs.YtldjiieckddhkaaGreatDoor
open Go.RowKit Go.Sort
theorem n_any (k : Int) (w : World) : Calls Tryz.prog 29 #[.int .i64 k] w fun e w' => e = .returned (.agg #[.int .i64 1, .int .i64 k, .int .i64 0, .string ⟨#[]⟩, .string ⟨#[]⟩]) ∧ Below w.heap.size w w' := by
  go_enter Tryz.func29, Tryz.ntmps29
  go_wp2
  refine bodyPost_ret (v := .agg #[.int .i64 1, .int .i64 k, .int .i64 0, .string ⟨#[]⟩, .string ⟨#[]⟩]) (by simp [results, Tryz.results29, go_sem, *]) rfl ⟨rfl, ?_⟩
  exact (Below.refl _ w).alloc (Nat.le_refl _) _
theorem op_any (k : Int) (w : World) : Calls Tryz.prog 20 #[.int .i64 k] w fun e w' => e = .returned (.agg #[.int .i64 5, .int .i64 k, .int .i64 0, .string ⟨#[]⟩, .string ⟨#[]⟩]) ∧ Below w.heap.size w w' := by
  go_enter Tryz.func20, Tryz.ntmps20
  go_wp2
  refine bodyPost_ret (v := .agg #[.int .i64 5, .int .i64 k, .int .i64 0, .string ⟨#[]⟩, .string ⟨#[]⟩]) (by simp [results, Tryz.results20, go_sem, *]) rfl ⟨rfl, ?_⟩
  exact (Below.refl _ w).alloc (Nat.le_refl _) _
end Go.Proofs.YtldjiieckddhkaaGreatDoor
namespace Go.Proofs.YtldjiieckddhkaaGreatDoor
def Lay : Nat → List Vl → List Sp → Nat → Prop
  | s, [], [], e => s = e
  | s, v :: st, a :: sp, e => a.1 = s ∧ a.2 + 1 = s + v.ps.length ∧ Lay (a.2 + 1) st sp e
  | _, _, _, _ => False
theorem Lay.len : ∀ {s : Nat} {st : List Vl} {sp : List Sp} {e : Nat}, Lay s st sp e → st.length = sp.length
  | _, [], [], _, _ => rfl
  | _, v :: st, a :: sp, _, h => by rw [List.length_cons, List.length_cons, Lay.len h.2.2]
  | _, [], _ :: _, _, h => h.elim
  | _, _ :: _, [], _, h => h.elim
theorem lay_append : ∀ {s : Nat} {a b : List Vl} {c d : List Sp} {e : Nat}, a.length = c.length → (Lay s (a ++ b) (c ++ d) e ↔ ∃ m, Lay s a c m ∧ Lay m b d e)
  | s, [], b, [], d, e, _ => ⟨fun h => ⟨s, rfl, h⟩, fun ⟨m, h1, h2⟩ => by obtain rfl : s = m := h1; exact h2⟩
  | s, v :: a, b, x :: c, d, e, h => by
    have ih := @lay_append (x.2 + 1) a b c d e (by simpa using h)
    constructor
    · rintro ⟨h1, h2, h3⟩
      obtain ⟨m, k1, k2⟩ := ih.1 h3
      exact ⟨m, ⟨h1, h2, k1⟩, k2⟩
    · rintro ⟨m, ⟨h1, h2, k1⟩, k2⟩
      exact ⟨h1, h2, ih.2 ⟨m, k1, k2⟩⟩
  | _, [], _, _ :: _, _, _, h => by simp at h
  | _, _ :: _, _, [], _, _, h => by simp at h
theorem Lay.total : ∀ {s : Nat} {st : List Vl} {sp : List Sp} {e : Nat}, Lay s st sp e → s + (st.map (·.ps)).flatten.length = e ∧ (match sp with | a :: _ => a.1 | [] => e) = s
  | s, [], [], e, h => ⟨(show s = e from h), (show s = e from h).symm⟩
  | s, v :: st, a :: sp, e, ⟨h1, h2, h3⟩ => by
    refine ⟨?_, h1⟩
    have := (Lay.total h3).1
    rw [List.map_cons, List.flatten_cons, List.length_append]; omega
  | _, [], _ :: _, _, h => h.elim
  | _, _ :: _, [], _, h => h.elim
theorem resV_length (p : Pt) (of : List Int) (m : Int) (v : Vl) : (resV p of m v).length = v.ps.length := by
  unfold resV giveP
  split
  · rw [List.length_map]
  · rfl
theorem resV_flat (p : Pt) (of : List Int) (m : Int) : ∀ on : List Vl, ((on.map (resV p of m)).flatten).length = ((on.map (·.ps)).flatten).length
  | [] => rfl
  | v :: on => by rw [List.map_cons, List.flatten_cons, List.map_cons, List.flatten_cons, List.length_append, List.length_append, resV_length, resV_flat p of m on]
theorem lay_step {vs : List Vr} {p : Pt} {st : List Vl} {sp : List Sp} {k : Nat} {v' : Vl} (h : Lay 0 st sp k) (hr : partR vs p (st.drop (st.length - takes p)) = .ok v') :
    Lay 0 (st.take (st.length - takes p) ++ [v']) (spStep p k sp) (k + 1) := by
  have hl := h.len
  rw [← List.take_append_drop (st.length - takes p) st, ← List.take_append_drop (sp.length - takes p) sp] at h
  obtain ⟨m, h1, h2⟩ := (lay_append (by rw [List.length_take, List.length_take, hl])).1 h
  obtain ⟨t1, t2⟩ := h2.total
  unfold spStep
  refine (lay_append (by rw [List.length_take, List.length_take, hl])).2 ⟨m, h1, ?_⟩
  unfold partR at hr
  split at hr
  · cases hr
  · obtain rfl := Except.ok.inj hr
    refine ⟨t2, ?_, rfl⟩
    show k + 1 = m + _
    rw [List.length_append, resV_flat, ← t1]; rfl
end Go.Proofs.YtldjiieckddhkaaGreatDoor
namespace Go.Proofs.YtldjiieckddhkaaGreatDoor
def zk (k : Kd) : Kd := if k.typ = 0 then ⟨0, 0, 0⟩ else k
theorem zk_typ (k : Kd) : (zk k).typ = k.typ := by
  unfold zk
  split
  · rename_i h; exact h.symm
  · rfl
theorem zk_typed {k : Kd} (h : k.typ ≠ 0) : zk k = k := by unfold zk; rw [if_neg h]
theorem zk_bare {k : Kd} (h : k.typ = 0) : zk k = ⟨0, 0, 0⟩ := by unfold zk; rw [if_pos h]
theorem zk_fits {k : Kd} {t : Int} (h : kFits k t = 0) : kFits (zk k) t = 0 := by
  rcases kFits_inv h with ⟨h0, -⟩ | ⟨h0, h1, -, -⟩
  · rw [zk_typed h0]; exact h
  · rw [zk_bare h0]
    rcases h1 with rfl | rfl <;> decide
theorem zk_among {k : Kd} {ts : List Int} (h : kAmong k ts = 0) : kAmong (zk k) ts = 0 := by
  by_cases h0 : k.typ = 0
  · rw [zk_bare h0]
    unfold kAmong
    rw [show kFits ⟨0, 0, 0⟩ 3 = 0 by decide]
    split <;> rfl
  · rw [zk_typed h0]; exact h
theorem tyOr_zk (k : Kd) (t : Int) : tyOr (zk k) t = tyOr k t := by unfold tyOr; rw [zk_typ]
theorem zk_op {op : Int} {l r k : Kd} (h : opK op l r = .ok k) : ∃ k', opK op (zk l) (zk r) = .ok k' ∧ k'.typ = k.typ := by
  rcases opK_inv h with ⟨h1, h2, h3, rfl⟩ | ⟨h1, h2, h3, rfl, h5⟩
  · exact ⟨_, opK_bare (by rw [zk_typ]; exact h1) (by rw [zk_typ]; exact h2) h3, rfl⟩
  · refine ⟨kT (Four.resN op (tyOr l (tyOr r 3))).1, ?_, rfl⟩
    unfold opK
    rw [tyOr_zk, tyOr_zk, zk_typ, zk_typ, if_neg (fun hh => hh h1), if_neg, if_neg (fun hh => hh (zk_fits h2)), if_neg (fun hh => hh (zk_fits h3))]
    rintro ⟨a, b, c⟩
    refine h5 ⟨a, b, ?_⟩
    have e : tyOr l (tyOr r 3) = 3 := by unfold tyOr; rw [if_pos a, if_pos b]
    rw [e] at c
    exact c
theorem zk_head (on : List Kd) : (on.map zk).headD (kT 0) = zk (on.headD (kT 0)) := by cases on <;> rfl
theorem zk_last (on : List Kd) : (on.map zk).getLastD (kT 0) = zk (on.getLastD (kT 0)) := by
  rw [List.getLastD_eq_getLast?, List.getLastD_eq_getLast?, List.getLast?_map]
  cases on.getLast? <;> rfl
theorem partK_zk {vs : List Vr} {p : Pt} {on : List Kd} {k : Kd} (h : partK vs p on = .ok k) : ∃ k', partK vs p (on.map zk) = .ok k' ∧ k'.typ = k.typ := by
  unfold partK at h ⊢
  rw [zk_head, zk_last]
  split
  · rename_i h1; rw [if_pos h1] at h; exact ⟨_, rfl, by rw [← Except.ok.inj h]⟩
  rename_i h1
  rw [if_neg h1] at h
  split
  · rename_i h2
    rw [if_pos h2] at h
    exact ⟨k, h, rfl⟩
  rename_i h2
  rw [if_neg h2] at h
  split
  · rename_i h3
    rw [if_pos h3] at h
    cases hf : findV vs p.s (true, false) with
    | error e => rw [hf] at h; cases h
    | ok v =>
      rw [hf] at h
      dsimp only at h ⊢
      by_cases ha : kAmong (on.headD (kT 0)) [2] = 0
      · rw [if_neg (fun hh => hh ha)] at h
        rw [if_neg (fun hh => hh (zk_among ha))]
        exact ⟨k, h, rfl⟩
      · rw [if_pos ha] at h; cases h
  rename_i h3
  rw [if_neg h3] at h
  split
  · rename_i h4
    rw [if_pos h4] at h
    exact ⟨k, h, rfl⟩
  rename_i h4
  rw [if_neg h4] at h
  split
  · rename_i h6
    rw [if_pos h6] at h
    by_cases ha : kAmong (on.headD (kT 0)) [2, 4] = 0
    · rw [if_neg (fun hh => hh ha)] at h
      rw [if_neg (fun hh => hh (zk_among ha))]
      exact ⟨k, h, rfl⟩
    · rw [if_pos ha] at h; cases h
  · rename_i h6
    rw [if_neg h6] at h
    exact zk_op h
theorem run_nums (vs : List Vr) : ∀ (on : List Kd) (st : List Kd), (∀ k ∈ on, k.typ ≠ 0 → k = kT k.typ) → mRun (partK vs) (on.map fun k => numP 0 k.typ) st = .ok (st ++ on.map zk)
  | [], st, _ => by rw [List.map_nil, List.map_nil, List.append_nil]; rfl
  | k :: on, st, h => by
    have e : partK vs (numP 0 k.typ) (st.drop (st.length - takes (numP 0 k.typ))) = .ok (zk k) := by
      show (if (1 : Int) = 1 then Except.ok (if k.typ = 0 then (⟨0, 0, 0⟩ : Kd) else kT k.typ) else _) = _
      rw [if_pos rfl]
      unfold zk
      split
      · rfl
      · rename_i h0; rw [← h k List.mem_cons_self h0]
    have s : mStep (partK vs) (numP 0 k.typ) st = .ok (st ++ [zk k]) := by
      unfold mStep
      rw [e]
      show Except.ok (st.take (st.length - 0) ++ [zk k]) = _
      rw [Nat.sub_zero, List.take_length]
    show (match mStep (partK vs) (numP 0 k.typ) st with | .error e => Except.error e | .ok s1 => mRun (partK vs) (on.map fun (k : Kd) => numP 0 k.typ) s1) = _
    rw [s]
    show mRun (partK vs) (on.map fun k => numP 0 k.typ) (st ++ [zk k]) = _
    rw [run_nums vs on _ (fun k hk => h k (List.mem_cons_of_mem _ hk)), List.append_assoc]; rfl
theorem run_made {vs : List Vr} {p : Pt} {on : List Kd} {k : Kd} (hk : ∀ k ∈ on, k.typ ≠ 0 → k = kT k.typ) (ht : takes p = on.length) (h : partK vs p on = .ok k) :
    ∃ k', mRun (partK vs) ((on.map fun k => numP 0 k.typ) ++ [p]) [] = .ok [k'] ∧ k'.typ = k.typ ∧ partK vs p (on.map zk) = .ok k' := by
  obtain ⟨k', h1, h2⟩ := partK_zk h
  refine ⟨k', ?_, h2, h1⟩
  rw [run_snoc, run_nums vs on [] hk]
  have := mStep_on (partK vs) p [] (on.map zk) (by rw [List.length_map]; exact ht)
  rw [h1] at this
  exact this
end Go.Proofs.YtldjiieckddhkaaGreatDoor
namespace Go.Proofs.YtldjiieckddhkaaGreatDoor
theorem num_may {t : Int} (h : t = 0 ∨ (1 ≤ t ∧ t ≤ 4)) : mayP (numP 0 t) = true := by
  have : t = 0 ∨ t = 1 ∨ t = 2 ∨ t = 3 ∨ t = 4 := by omega
  rcases this with rfl | rfl | rfl | rfl | rfl <;> decide
theorem num_takes (t : Int) : takes (numP 0 t) = 0 := rfl
theorem made_check {p : Pt} {on : List Kd} (hm : mayP p = true) (ht : takes p = on.length) (hk : ∀ k ∈ on, k.typ = 0 ∨ (1 ≤ k.typ ∧ k.typ ≤ 4)) : checkP ((on.map fun k => numP 0 k.typ) ++ [p]) = 0 := by
  have h2 := takes_le p
  have hall : ((on.map fun k => numP 0 k.typ) ++ [p]).all mayP = true := by
    rw [List.all_eq_true]
    intro q hq
    rcases List.mem_append.1 hq with h | h
    · obtain ⟨k, hk', rfl⟩ := List.mem_map.1 h
      exact num_may (hk k hk')
    · rw [List.mem_singleton.1 h]; exact hm
  have hlen : ((on.map fun k => numP 0 k.typ) ++ [p]).length ≤ 3 := by rw [List.length_append, List.length_map, ← ht]; show _ + 1 ≤ 3; omega
  have hd : depth ((on.map fun k => numP 0 k.typ) ++ [p]) = 1 ∨ depth ((on.map fun k => numP 0 k.typ) ++ [p]) = 2 := by
    match on, ht with
    | [], ht =>
      left
      have ht' : takes p = 0 := ht
      unfold depth
      simp only [List.map_nil, List.nil_append, depths]
      rw [if_pos ht']
    | [a], ht =>
      right
      have ht' : takes p = 1 := ht
      unfold depth
      simp only [List.map_cons, List.map_nil, List.cons_append, List.nil_append, depths, num_takes, if_true]
      rw [if_neg (by omega), if_pos ht']
    | [a, b], ht =>
      right
      have ht' : takes p = 2 := ht
      unfold depth
      simp only [List.map_cons, List.map_nil, List.cons_append, List.nil_append, depths, num_takes, if_true]
      rw [if_neg (by omega), if_neg (by omega)]; rfl
    | _ :: _ :: _ :: _, ht => rw [List.length_cons, List.length_cons, List.length_cons] at ht; omega
  unfold checkP
  rw [if_neg (by omega), if_neg (by rw [hall]; decide), if_neg (by omega)]
theorem zk_eq {k : Kd} (h : (zk k).typ = 0) : zk k = ⟨0, 0, 0⟩ := zk_bare (by rw [zk_typ] at h; exact h)
theorem zero_fits : kFits ⟨0, 0, 0⟩ 3 = 0 := by decide
theorem made_fits {vs : List Vr} {p : Pt} {on : List Kd} {k : Kd} (h : partK vs p (on.map zk) = .ok k) (h0 : k.typ = 0) (hn : p.kind = 1 → p.t = 0 → fit6 3 p.n = true) : kFits k 3 = 0 := by
  have kt : ∀ t : Int, k = kT t → kFits k 3 = 0 := fun t e => by
    rw [e] at h0 ⊢
    have : t = 0 := h0
    rw [this]; exact zero_fits
  unfold partK at h
  rw [zk_head, zk_last] at h
  split at h
  · rename_i h1
    have e := Except.ok.inj h
    by_cases ht : p.t = 0
    · rw [if_pos ht] at e
      rw [← e]
      have := hn h1 ht
      unfold kFits
      rw [if_neg (fun hh => hh.1 rfl), if_neg (by simp), if_neg (by simp [this])]
    · rw [if_neg ht] at e
      exact kt _ e.symm
  split at h
  · split at h
    · cases h
    · exact kt _ (Except.ok.inj h).symm
  split at h
  · split at h
    · cases h
    · split at h
      · cases h
      · exact kt _ (Except.ok.inj h).symm
  split at h
  · split at h
    · cases h
    · split at h
      · cases h
      · exact kt _ (Except.ok.inj h).symm
  split at h
  · split at h
    · cases h
    · exact kt _ (Except.ok.inj h).symm
  · rcases opK_inv h with ⟨h1, h2, h3, rfl⟩ | ⟨h1, h2, h3, rfl, h5⟩
    · rw [zk_eq h1, zk_eq h2]; decide
    · exact kt _ rfl
theorem ask_made {vs : List Vr} {p : Pt} {on : List Kd} {k : Kd} (hv : mayV vs = 0) (hm : mayP p = true) (ht : takes p = on.length) (hk : ∀ k ∈ on, k.typ = 0 ∨ (k = kT k.typ ∧ 1 ≤ k.typ ∧ k.typ ≤ 4))
    (hn : p.kind = 1 → p.t = 0 → fit6 3 p.n = true) (h : partK vs p on = .ok k) : ∃ k', askP vs ((on.map fun k => numP 0 k.typ) ++ [p]) = .ok k' ∧ k'.typ = k.typ := by
  obtain ⟨k', h1, h2, h3⟩ := run_made (fun k hk' h0 => ((hk k hk').resolve_left h0).1) ht h
  refine ⟨k', ?_, h2⟩
  unfold askP
  rw [if_neg (fun hh => hh hv), made_check hm ht (fun k hk' => (hk k hk').imp id (fun h => h.2)), if_neg (fun hh => hh rfl)]
  unfold kindP
  rw [h1]
  show (if k'.typ = 0 ∧ kFits k' 3 ≠ 0 then Except.error 1 else Except.ok k') = _
  rw [if_neg]
  rintro ⟨a, b⟩
  exact b (made_fits h3 a hn)
end Go.Proofs.YtldjiieckddhkaaGreatDoor
namespace Go.Proofs.YtldjiieckddhkaaGreatDoor
def Nf (e : Ex) : Prop := InT (fun p => p.t = 0 → fit6 3 p.n = true) e
theorem fit_23 {t n : Int} (ht : t = 2 ∨ t = 3) (h : fit6 t n = true) : fit6 3 n = true := by
  rcases ht with rfl | rfl
  · unfold fit6 at h ⊢
    simp at h ⊢
    omega
  · exact h
theorem among_fits {u : Kd} {ts : List Int} (h : kAmong u ts = 0) (h0 : u.typ = 0) (hts : ∀ t ∈ ts, t ≠ 0) : kFits u 3 = 0 := by
  unfold kAmong at h
  split at h
  · rename_i ha
    obtain ⟨t, ht, he⟩ := List.any_eq_true.1 ha
    have e := of_decide_eq_true he
    rw [e] at h0
    exact absurd h0 (hts t ht)
  · exact h
theorem nf_kid {vs : List Vr} (hv : vOk vs) {a : Ex} {u : Kd} (hw : well a) (hu : evT (partK vs) a = .ok u) (ih : u.typ ≠ 0 → Nf a) {T : Int} (hf : u.typ = 0 → kFits u T = 0) : Nf a := by
  by_cases h0 : u.typ = 0
  · rcases fits_kid hv hw hu (A := T) (hf h0) (fun _ => rfl) with ⟨h1, -⟩ | ⟨-, -, hT, hi⟩
    · exact absurd h0 h1
    · exact InT.mono (Q := fun p => p.t = 0 → fit6 3 p.n = true) (fun p hp _ => fit_23 hT hp) hi
  · exact ih h0
theorem nums_fit {vs : List Vr} (hv : vOk vs) : ∀ {e : Ex} {k : Kd}, well e → evT (partK vs) e = .ok k → k.typ ≠ 0 → Nf e
  | .leaf p, k, hw, h, h0 => by
    rcases leaf_kind hv hw.1 hw.2 h with ⟨-, -, rfl⟩ | ⟨h1, -⟩
    · exact absurd rfl h0
    · exact fun hk ht => absurd ht (h1 hk)
  | .one p a, k, hw, h, h0 => by
    obtain ⟨u, hu, hp⟩ := ev1_inv h
    have ih : u.typ ≠ 0 → Nf a := fun hne => nums_fit hv hw.2.2 hu hne
    have key : u.typ = 0 → ∃ T, kFits u T = 0 := fun hu0 => by
      unfold partK at hp
      have hh : ([u] : List Kd).headD (kT 0) = u := rfl
      have hl : ([u] : List Kd).getLastD (kT 0) = u := rfl
      rw [hh, hl] at hp
      have ht := hw.1
      split at hp
      · rename_i e; unfold takes at ht; rw [if_neg (by omega), if_neg (by omega), if_neg (by omega)] at ht; cases ht
      split at hp
      · rename_i e; unfold takes at ht; rw [if_neg (by omega), if_neg (by omega), if_neg (by omega)] at ht; cases ht
      split at hp
      · split at hp
        · cases hp
        · split at hp
          · cases hp
          · rename_i hc
            exact ⟨3, among_fits (Decidable.byContradiction hc) hu0 (by simp)⟩
      split at hp
      · rename_i e; unfold takes at ht; rw [if_neg (by omega), if_neg (by omega), if_neg (by omega)] at ht; cases ht
      split at hp
      · split at hp
        · cases hp
        · rename_i hc
          exact ⟨3, among_fits (Decidable.byContradiction hc) hu0 (by simp)⟩
      · rcases opK_inv hp with ⟨-, -, -, rfl⟩ | ⟨-, h2, -⟩
        · exact absurd rfl h0
        · exact ⟨_, h2⟩
    by_cases hu0 : u.typ = 0
    · obtain ⟨T, hT⟩ := key hu0
      exact (show Nf a from nf_kid hv hw.2.2 hu ih (fun _ => hT))
    · exact ih hu0
  | .two p a b, k, hw, h, h0 => by
    obtain ⟨u, u', hu, hu', hp⟩ := ev2_inv h
    have ht := hw.1
    have h5 : p.kind = 5 := by
      unfold takes at ht
      split at ht
      · cases ht
      split at ht
      · cases ht
      split at ht
      · rename_i e; exact e
      · cases ht
    unfold partK at hp
    rw [if_neg (by omega), if_neg (by omega), if_neg (by omega), if_neg (by omega), if_neg (by omega)] at hp
    have hh : ([u, u'] : List Kd).headD (kT 0) = u := rfl
    have hl : ([u, u'] : List Kd).getLastD (kT 0) = u' := rfl
    rw [hh, hl] at hp
    rcases opK_inv hp with ⟨-, -, -, rfl⟩ | ⟨-, h2, h3, -⟩
    · exact absurd rfl h0
    · exact ⟨nf_kid hv hw.2.2.1 hu (fun hne => nums_fit hv hw.2.2.1 hu hne) (fun _ => h2), nf_kid hv hw.2.2.2 hu' (fun hne => nums_fit hv hw.2.2.2 hu' hne) (fun _ => h3)⟩
theorem fits_nums {vs : List Vr} (hv : vOk vs) {e : Ex} {k : Kd} {t : Int} (hw : well e) (h : evT (partK vs) e = .ok k) (hf : kFits k t = 0) : Nf e :=
  nf_kid hv hw h (fun hne => nums_fit hv hw h hne) (fun _ => hf)
theorem nf_flat : ∀ {e : Ex}, well e → Nf e → ∀ p ∈ flat e, p.kind = 1 → p.t = 0 → fit6 3 p.n = true
  | .leaf q, hw, h, p, hp, hk, ht => by
    rw [List.mem_singleton.1 hp] at hk ht ⊢
    exact h hk ht
  | .one q e, hw, h, p, hp, hk, ht => by
    rcases List.mem_append.1 (show p ∈ flat e ++ [q] from hp) with h1 | h1
    · exact nf_flat hw.2.2 h p h1 hk ht
    · rw [List.mem_singleton.1 h1] at hk
      have := hw.1
      unfold takes at this
      rw [if_neg (by omega), if_neg (by omega), if_neg (by omega)] at this; cases this
  | .two q a b, hw, h, p, hp, hk, ht => by
    rcases List.mem_append.1 (show p ∈ flat a ++ (flat b ++ [q]) from hp) with h1 | h1
    · exact nf_flat hw.2.2.1 h.1 p h1 hk ht
    rcases List.mem_append.1 h1 with h1 | h1
    · exact nf_flat hw.2.2.2 h.2 p h1 hk ht
    · rw [List.mem_singleton.1 h1] at hk
      have := hw.1
      unfold takes at this
      rw [if_neg (by omega), if_neg (by omega), if_neg (by omega)] at this; cases this
end Go.Proofs.YtldjiieckddhkaaGreatDoor
namespace Go.Proofs.YtldjiieckddhkaaGreatDoor
def KdOk (k : Kd) : Prop := k.typ = 0 ∨ (k = kT k.typ ∧ 1 ≤ k.typ ∧ k.typ ≤ 4)
theorem kdOk_kT {t : Int} (h : 1 ≤ t ∧ t ≤ 4) : KdOk (kT t) := .inr ⟨rfl, h⟩
theorem KdOk.pos {k : Kd} (h : KdOk k) (h0 : k.typ ≠ 0) : 1 ≤ k.typ ∧ k.typ ≤ 4 := (h.resolve_left h0).2
theorem head_ok {on : List Kd} (hon : ∀ k ∈ on, KdOk k) : KdOk (on.headD (kT 0)) := by
  cases on with
  | nil => exact .inl rfl
  | cons k l => exact hon k (List.mem_cons_self)
theorem last_ok : ∀ {on : List Kd} {d : Kd}, KdOk d → (∀ k ∈ on, KdOk k) → KdOk (on.getLastD d)
  | [], _, hd, _ => hd
  | k :: l, d, _, h => by
    rw [List.getLastD_cons]
    exact last_ok (h k List.mem_cons_self) (fun q hq => h q (List.mem_cons_of_mem _ hq))
theorem part_form {vs : List Vr} {p : Pt} {on : List Kd} {k : Kd} (hv : vOk vs) (hm : mayP p = true) (hon : ∀ k ∈ on, KdOk k) (h : partK vs p on = .ok k) : KdOk k := by
  unfold partK at h
  by_cases h1 : p.kind = 1
  · rw [if_pos h1] at h
    obtain rfl := Except.ok.inj h
    by_cases h0 : p.t = 0
    · rw [if_pos h0]; exact .inl rfl
    · rw [if_neg h0]; exact kdOk_kT (fit_t (((mayp_num h1 hm).2.2).resolve_left h0))
  rw [if_neg h1] at h
  by_cases h2 : p.kind = 2
  · rw [if_pos h2] at h
    split at h
    · cases h
    · rename_i v hf
      obtain rfl := Except.ok.inj h
      exact kdOk_kT (find_ty hv hf)
  rw [if_neg h2] at h
  by_cases h3 : p.kind = 3
  · rw [if_pos h3] at h
    split at h
    · cases h
    · rename_i v hf
      split at h
      · cases h
      · obtain rfl := Except.ok.inj h
        exact kdOk_kT (find_ty hv hf)
  rw [if_neg h3] at h
  by_cases h4 : p.kind = 4
  · rw [if_pos h4] at h
    split at h
    · cases h
    · split at h
      · cases h
      · rename_i r hr
        obtain rfl := Except.ok.inj h
        exact kdOk_kT (fld_ty hr)
  rw [if_neg h4] at h
  unfold mayP at hm
  rw [if_neg h1, if_neg (by omega), if_neg h4] at hm
  by_cases h6 : p.kind = 6
  · rw [if_pos h6] at h
    rw [if_neg (by omega), if_pos h6] at hm
    split at h
    · cases h
    · obtain rfl := Except.ok.inj h
      simp at hm
      exact kdOk_kT (by omega)
  · rw [if_neg h6] at h
    have h5 : p.kind = 5 := by
      by_cases h5 : p.kind = 5
      · exact h5
      · rw [if_neg h5, if_neg h6] at hm; cases hm
    rw [if_pos h5] at hm
    simp at hm
    have ho : 1 ≤ p.n ∧ p.n ≤ 16 := by omega
    rcases opK_inv h with ⟨_, _, _, rfl⟩ | ⟨h7, _, _, rfl, _⟩
    · exact .inl rfl
    · have ht := tyOr_pos (fun q => (head_ok hon).pos q) (fun q => (last_ok (d := kT 0) (.inl rfl) hon).pos q)
      refine kdOk_kT ?_
      rw [res_range ho ht h7]
      split <;> omega
structure RsS (vs : List Vr) (x : List Pt) (k : Nat) (st : List Vl) : Prop where
  run : mRun (partR vs) (x.take k) [] = .ok st
  lay : Lay 0 st (spAt x k) k
  ok : ∀ v ∈ st, KdOk v.k
  ne : ∀ v ∈ st, 1 ≤ v.ps.length
theorem run_pre {V : Type} {f : Pt → List V → Except Int V} {x : List Pt} {st : List V} (h : mRun f x [] = .ok st) (k : Nat) : ∃ s, mRun f (x.take k) [] = .ok s := by
  have e := run_app f (x.take k) (x.drop k) []
  rw [List.take_append_drop, h] at e
  cases hr : mRun f (x.take k) [] with
  | ok s => exact ⟨s, rfl⟩
  | error n => rw [hr] at e; cases e
theorem take_snoc {x : List Pt} {k : Nat} {p : Pt} (hp : x[k]? = some p) : x.take (k + 1) = x.take k ++ [p] := by rw [List.take_add_one, hp]; rfl
theorem rs_next {vs : List Vr} {x : List Pt} {k : Nat} {st sN : List Vl} {p : Pt} (hv : vOk vs) (hm : ∀ p ∈ x, mayP p = true) (hN : mRun (partR vs) x [] = .ok sN) (h : RsS vs x k st) (hp : x[k]? = some p) :
    ∃ v', partR vs p (st.drop (st.length - takes p)) = .ok v' ∧ RsS vs x (k + 1) (st.take (st.length - takes p) ++ [v']) := by
  obtain ⟨s, hs⟩ := run_pre hN (k + 1)
  have e := run_snoc (partR vs) (x.take k) p []
  rw [← take_snoc hp, hs, h.run] at e
  have e : Except.ok s = mStep (partR vs) p st := e
  unfold mStep at e
  cases hr : partR vs p (st.drop (st.length - takes p)) with
  | error n => rw [hr] at e; cases e
  | ok v' =>
    rw [hr] at e
    have e := Except.ok.inj e
    subst e
    refine ⟨v', rfl, hs, by rw [spAt_succ hp]; exact lay_step h.lay hr, fun v hv' => ?_, fun v hv' => ?_⟩
    rotate_left
    · rcases List.mem_append.1 hv' with hv' | hv'
      · exact h.ne v (List.mem_of_mem_take hv')
      · obtain rfl := List.mem_singleton.1 hv'
        unfold partR at hr
        split at hr
        · cases hr
        · obtain rfl := Except.ok.inj hr
          show 1 ≤ (_ ++ [p]).length
          rw [List.length_append]; exact Nat.le_add_left _ _
    rcases List.mem_append.1 hv' with hv' | hv'
    · exact h.ok v (List.mem_of_mem_take hv')
    · obtain rfl := List.mem_singleton.1 hv'
      unfold partR at hr
      split at hr
      · cases hr
      · rename_i kk hk
        obtain rfl := Except.ok.inj hr
        refine part_form hv (hm p (List.mem_of_getElem? hp)) (fun q hq => ?_) hk
        obtain ⟨u, hu, rfl⟩ := List.mem_map.1 hq
        exact h.ok u (List.mem_of_mem_drop hu)
theorem rs_zero (vs : List Vr) (x : List Pt) : RsS vs x 0 [] := ⟨by rw [List.take_zero]; rfl, rfl, fun v h => (by cases h), fun v h => (by cases h)⟩
def outK (st : List Vl) (x : List Pt) (k : Nat) : List Pt := (st.map (·.ps)).flatten ++ x.drop k
theorem outK_zero (x : List Pt) : outK [] x 0 = x := by unfold outK; simp
theorem outK_next {vs : List Vr} {x : List Pt} {k : Nat} {st : List Vl} {p : Pt} {v' : Vl} (hp : x[k]? = some p) (hr : partR vs p (st.drop (st.length - takes p)) = .ok v') :
    outK (st.take (st.length - takes p) ++ [v']) x (k + 1) = ((st.take (st.length - takes p)).map (·.ps)).flatten ++ (((st.drop (st.length - takes p)).map (resV p ((st.drop (st.length - takes p)).map (·.k.typ)) v'.k.typ)).flatten ++ x.drop k) := by
  unfold partR at hr
  split at hr
  · cases hr
  · obtain rfl := Except.ok.inj hr
    have hk := (List.getElem?_eq_some_iff.1 hp).1
    unfold outK
    rw [List.map_append, List.flatten_append, List.drop_eq_getElem_cons hk, (List.getElem?_eq_some_iff.1 hp).2]
    simp
def TyAt (st : List Vl) (sp : List Sp) (tys : List Int) : Prop := ∀ (i : Nat) (v : Vl) (s : Sp), st[i]? = some v → sp[i]? = some s → tys[s.2]? = some v.k.typ
theorem lay_lt : ∀ {s : Nat} {st : List Vl} {sp : List Sp} {e : Nat}, Lay s st sp e → ∀ (i : Nat) (a : Sp), sp[i]? = some a → a.1 ≤ a.2 + 1 ∧ a.2 < e
  | _, [], [], _, _, i, a, h => by cases h
  | s, v :: st, b :: sp, e, ⟨h1, h2, h3⟩, 0, a, h => by
    obtain rfl := Option.some.inj (show some b = some a from h)
    have := (h3.total).1
    exact ⟨by omega, by omega⟩
  | s, v :: st, b :: sp, e, ⟨h1, h2, h3⟩, i + 1, a, h => lay_lt h3 i a h
  | _, [], _ :: _, _, h, _, _, _ => h.elim
  | _, _ :: _, [], _, h, _, _, _ => h.elim
theorem ty_next {vs : List Vr} {x : List Pt} {k : Nat} {st : List Vl} {p : Pt} {v' : Vl} {tys : List Int} (h : RsS vs x k st) (hp : x[k]? = some p) (hk : k < tys.length) (ht : TyAt st (spAt x k) tys) :
    TyAt (st.take (st.length - takes p) ++ [v']) (spAt x (k + 1)) (tys.set k v'.k.typ) := by
  have hl := h.lay.len
  rw [spAt_succ hp]
  unfold spStep
  intro i v s hv hs
  rw [← hl] at hs
  by_cases hi : i < st.length - takes p
  · rw [List.getElem?_append_left (by rw [List.length_take]; omega), List.getElem?_take, if_pos hi] at hv
    rw [List.getElem?_append_left (by rw [List.length_take]; omega), List.getElem?_take, if_pos hi] at hs
    have := (lay_lt h.lay i s hs).2
    rw [List.getElem?_set, if_neg (by omega)]
    exact ht i v s hv hs
  · rw [List.getElem?_append_right (by rw [List.length_take]; omega)] at hv hs
    rw [List.length_take] at hv hs
    have e : i - min (st.length - takes p) st.length = 0 := by
      have := (List.getElem?_eq_some_iff.1 hv).1
      simp at this; omega
    have e2 : i - min (st.length - takes p) (spAt x k).length = 0 := by rw [← hl]; exact e
    rw [e] at hv
    rw [e2] at hs
    obtain rfl := Option.some.inj (show some v' = some v from hv)
    have hs : some (_, k) = some s := hs
    obtain rfl := Option.some.inj hs
    rw [List.getElem?_set, if_pos rfl, if_pos hk]
end Go.Proofs.YtldjiieckddhkaaGreatDoor
namespace Go.Proofs.YtldjiieckddhkaaGreatDoor
open Go.RowKit Go.Shelf
def tyC (l : List Int) : List Value := l.map fun t => .int .i64 t
theorem tyC_length (l : List Int) : (tyC l).length = l.length := by rw [tyC, List.length_map]
theorem tyC_get (l : List Int) (i : Nat) : (tyC l)[i]? = (l[i]?).map fun t => .int .i64 t := by rw [tyC, List.getElem?_map]
theorem tyC_set (l : List Int) (i : Nat) (t : Int) : (tyC l).set i (.int .i64 t) = tyC (l.set i t) := by rw [tyC, tyC, List.map_set]
structure RsM (N gO gT : Nat) (o : List Pv) (tys : List Int) (rest : List Value) (W : World) : Prop where
  out : ∃ cs, W.heap[gO]? = some (.cells cs 38) ∧ cs.toList = pvsC o ++ rest
  typ : W.heap[gT]? = some (.cells (tyC tys).toArray 3)
  ol : o.length = N
  tl : tys.length = N
structure RsB (w : World) (vv v : Value) (gO M N cO : Nat) (W : World) : Prop where
  bv : W.heap[w.heap.size]? = some (.cells #[vv] 22)
  bx : W.heap[w.heap.size + 1]? = some (.cells #[v] 23)
  bo : W.heap[M]? = some (.cells #[.slice (some ⟨gO, 0, none⟩) N cO] 23)
  bt : W.heap[M + 2]? = some (.cells #[.slice (some ⟨M + 1, 0, none⟩) N N] 73)
  below : Below w.heap.size w W
structure RsI (w : World) (vv v : Value) (vs : List Vr) (x : List Pv) (gO M cO : Nat) (rest : List Value) (pre : List Stp) (O : List Nat) (W : World) : Prop where
  ex : ∃ st o tys, RsS vs (x.map ptV) pre.length st ∧ o.map ptV = outK st (x.map ptV) pre.length ∧ TyAt st (spAt (x.map ptV) pre.length) tys ∧ RsM x.length gO (M + 1) o tys rest W
  box : RsB w vv v gO M x.length cO W
  far : ∀ k ∈ O, M + 4 ≤ k
  room : M + 4 ≤ W.heap.size
  lt : ∀ k ∈ O, k < W.heap.size
theorem RsB.on {w : World} {vv v : Value} {gO M N cO : Nat} {A B : World} (h : RsB w vv v gO M N cO A) (hw : w.heap.size + 2 ≤ gO) (hM : gO < M) (hb : ∀ k, k < M + 4 → k ≠ gO → k ≠ M + 1 → B.heap[k]? = A.heap[k]?) (hs : A.heap.size ≤ B.heap.size) (h1 : B.os = A.os) (h2 : B.tape = A.tape) (h3 : B.output = A.output) : RsB w vv v gO M N cO B :=
  ⟨(hb _ (by omega) (by omega) (by omega)).trans h.bv, (hb _ (by omega) (by omega) (by omega)).trans h.bx, (hb _ (by omega) (by omega) (by omega)).trans h.bo, (hb _ (by omega) (by omega) (by omega)).trans h.bt,
    h.below.trans ⟨h1, h2, h3, hs, fun k hk => hb k (by omega) (by omega) (by omega)⟩⟩
theorem RsI.chg {w : World} {vv v : Value} {vs : List Vr} {x : List Pv} {gO M cO : Nat} {rest : List Value} (hw : w.heap.size + 2 ≤ gO) (hM : gO < M) (pre : List Stp) (O O' : List Nat) (A B : World) (h : RsI w vv v vs x gO M cO rest pre O A) (hc : Chg (M + 4) O A B) (hg : Grows O O' A B) : RsI w vv v vs x gO M cO rest pre O' B := by
  obtain ⟨st, o, tys, h1, h2, h3, ⟨cs, m1, m2⟩, m3, m4, m5⟩ := h.ex
  have kb : ∀ k, k < M + 4 → B.heap[k]? = A.heap[k]? := fun k hk => by
    have hk' : k < A.heap.size := Nat.lt_of_lt_of_le hk h.room
    exact (hc.block k _ (Array.getElem?_eq_getElem hk') (fun hO => by have := h.far k hO; omega) (.inl hk)).trans (Array.getElem?_eq_getElem hk').symm
  refine ⟨⟨st, o, tys, h1, h2, h3, ⟨cs, (kb gO (by omega)).trans m1, m2⟩, (kb _ (by omega)).trans m3, m4, m5⟩, h.box.on hw hM (fun k hk _ _ => kb k hk) hc.size hc.os hc.tape hc.output, fun k hk => ?_, Nat.le_trans h.room hc.size, fun k hk => (hg.2 k hk).elim (fun hk => Nat.lt_of_lt_of_le (h.lt k hk) hc.size) (fun hk => hk.2)⟩
  rcases hg.2 k hk with hk | hk
  · exact h.far k hk
  · have := h.room; have := hk.1; omega
theorem rs_close {w W W' : World} {vv v : Value} {vs : List Vr} {x o' : List Pv} {gO M cO b : Nat} {rest : List Value} {pre : List Stp} {s : Stp} {O : List Nat} {st' : List Vl} {tys' : List Int}
    (hw : w.heap.size + 2 ≤ gO) (hM : gO < M) (hbw : b < w.heap.size) (hI : RsI w vv v vs x gO M cO rest pre O W) (hk : KeepX [gO, M + 1] W W')
    (h1 : RsS vs (x.map ptV) (pre.length + 1) st') (h2 : o'.map ptV = outK st' (x.map ptV) (pre.length + 1)) (h3 : TyAt st' (spAt (x.map ptV) (pre.length + 1)) tys') (hm : RsM x.length gO (M + 1) o' tys' rest W') :
    KeepsOthers W W' ∧ OwnK ([M + 3, b] ++ O) W W' ∧ RsI w vv v vs x gO M cO rest (pre ++ [s]) O W' := by
  have kb : ∀ k, k < W.heap.size → k ≠ gO → k ≠ M + 1 → W'.heap[k]? = W.heap[k]? := fun k hk' e1 e2 => hk.block k hk' (by simp; omega)
  obtain ⟨st, o, tys, -, -, -, ⟨cs, m1, m2⟩, m3, -, -⟩ := hI.ex
  have hr := hI.room
  refine And.intro ⟨hk.size, ?_⟩ (And.intro ⟨hk.size, ?_⟩ ⟨⟨st', o', tys', by rw [List.length_append]; exact h1, by rw [List.length_append]; exact h2, by rw [List.length_append]; exact h3, hm⟩, ?_, hI.far, Nat.le_trans hr hk.size, fun k hO => Nat.lt_of_lt_of_le (hI.lt k hO) hk.size⟩)
  · intro k q hq hc
    have hkl := (Array.getElem?_eq_some_iff.1 hq).1
    rw [kb k hkl (fun e => by subst e; rw [m1] at hq; obtain rfl := Option.some.inj hq; cases hc) (fun e => by subst e; rw [m3] at hq; obtain rfl := Option.some.inj hq; cases hc)]
    exact hq
  · intro k hO
    rcases List.mem_append.1 hO with h | h
    · have h' : k = M + 3 ∨ k = b := by simpa using h
      exact kb k (by omega) (by omega) (by omega)
    · have := hI.far k h
      exact kb k (hI.lt k h) (by omega) (by omega)
  · exact hI.box.on hw hM (fun k hk' e1 e2 => kb k (by omega) e1 e2) hk.size hk.os hk.tape hk.output
end Go.Proofs.YtldjiieckddhkaaGreatDoor
