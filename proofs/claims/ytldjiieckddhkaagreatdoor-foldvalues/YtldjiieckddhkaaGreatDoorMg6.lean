/- FpB | FpC | FpD -/
import Derived.Test.YtldjiieckddhkaaGreatDoorMg5
namespace Go.Proofs.YtldjiieckddhkaaGreatDoor
def give1 (t : Int) (p : Pt) : Pt := if p.kind = 1 then ⟨p.kind, p.s, p.f, p.n, t⟩ else p
def giveP (t : Int) (ps : List Pt) : List Pt := ps.map (give1 t)
def idxT (ps : List Pt) : Int := if ps.all (fun p => !(decide (p.kind = 1)) || fit6 2 p.n) then 2 else 3
def maxT : List Int → Int
  | [] => 0
  | [a] => a
  | a :: r => max a (maxT r)
def askT (p : Pt) (of : List Int) (made : Int) (ps : List Pt) : Int :=
  if p.kind = 3 then idxT ps else if p.kind = 6 then 3 else if made = 0 then 0 else if maxT of = 0 then 3 else maxT of
structure Vl where
  k : Kd
  ps : List Pt
def resV (p : Pt) (of : List Int) (made : Int) (v : Vl) : List Pt := if v.k.typ = 0 then giveP (askT p of made v.ps) v.ps else v.ps
def partR (vs : List Vr) (p : Pt) (on : List Vl) : Except Int Vl :=
  match partK vs p (on.map (·.k)) with
  | .error e => .error e
  | .ok k => .ok ⟨k, (on.map (resV p (on.map (·.k.typ)) k.typ)).flatten ++ [p]⟩
def endR (t : Int) (v : Vl) : List Pt := if v.k.typ = 0 then giveP t v.ps else v.ps
def resP (vs : List Vr) (x : List Pt) (t : Int) : List Pt := match mRun (partR vs) x [] with
  | .error _ => []
  | .ok st => match st with
    | [] => []
    | v :: _ => endR t v
def resolveP (vs : List Vr) (x : List Pt) (t : Int) : List Pt × Int := if fitsP vs x t ≠ 0 then ([], fitsP vs x t) else (resP vs x t, 0)
def reckP (p : Pt) (on : List Pt) : Option Pt :=
  if on.any (fun a => decide (a.kind ≠ 1)) then none
  else if p.kind = 6 then (match on with
    | a :: _ => if (Four.convN a.t p.t a.n).2 = 0 then some (numP (Four.convN a.t p.t a.n).1 p.t) else none
    | [] => none)
  else if p.kind = 5 then (match on with
    | [a] => if (Four.oneN p.n a.t a.n).2 = 0 then some (numP (Four.oneN p.n a.t a.n).1 (Four.resN p.n a.t).1) else none
    | a :: b :: _ => if (Four.twoN p.n a.t a.n b.n).2 = 0 then some (numP (Four.twoN p.n a.t a.n b.n).1 (Four.resN p.n a.t).1) else none
    | [] => none)
  else none
def foldS (out : List Pt) (p : Pt) : List Pt := match reckP p (out.drop (out.length - takes p)) with
  | some q => out.take (out.length - takes p) ++ [q]
  | none => out ++ [p]
def foldP (x : List Pt) : List Pt := x.foldl foldS []
def foldAll (vs : List Vr) (x : List Pt) (t : Int) : List Pt × Int := if (resolveP vs x t).2 ≠ 0 then ([], (resolveP vs x t).2) else (foldP (resolveP vs x t).1, 0)
def segF (p : Pt) (on : List (List Pt)) : List Pt :=
  if on.all (fun s => decide (s.length = 1)) then (match reckP p on.flatten with
    | some q => [q]
    | none => on.flatten ++ [p])
  else on.flatten ++ [p]
def partF (p : Pt) (on : List (List Pt)) : Except Int (List Pt) := .ok (segF p on)
def Sg (s : List Pt) : Prop := s ≠ [] ∧ ∀ q, s.getLast? = some q → q.kind = 1 → s = [q]
theorem sg_seg {p : Pt} (on : List (List Pt)) (hp : p.kind = 1 → on = []) : Sg (segF p on) := by
  unfold segF
  split
  · split
    · exact ⟨by simp, fun q hq _ => by rw [List.getLast?_singleton] at hq; rw [Option.some.inj hq]⟩
    · refine ⟨by simp, fun q hq h1 => ?_⟩
      rw [List.getLast?_append, List.getLast?_singleton] at hq
      obtain rfl : p = q := by simpa using hq
      rw [hp h1]; rfl
  · refine ⟨by simp, fun q hq h1 => ?_⟩
    rw [List.getLast?_append, List.getLast?_singleton] at hq
    obtain rfl : p = q := by simpa using hq
    rw [hp h1]; rfl
theorem nums_alone : ∀ (n : Nat) (segs : List (List Pt)), n ≤ segs.length → (∀ s ∈ segs, Sg s) →
    (∀ a ∈ segs.flatten.drop (segs.flatten.length - n), a.kind = 1) → ∀ s ∈ segs.drop (segs.length - n), s.length = 1
  | 0, segs, _, _, _ => by simp
  | n + 1, segs, hn, hs, hk => by
    rcases List.eq_nil_or_concat segs with rfl | ⟨r, s, rfl⟩
    · simp at hn
    rw [List.concat_eq_append] at *
    have hS := hs s (by simp)
    obtain ⟨q, hq⟩ : ∃ q, s.getLast? = some q := by
      cases h : s.getLast? with
      | none => exact absurd (List.getLast?_eq_none_iff.1 h) hS.1
      | some q => exact ⟨q, rfl⟩
    have hfl : (r ++ [s]).flatten = r.flatten ++ s := by simp
    rw [hfl] at hk
    have hqm : q ∈ (r.flatten ++ s).drop ((r.flatten ++ s).length - (n + 1)) := by
      have hl : ((r.flatten ++ s).drop ((r.flatten ++ s).length - (n + 1))).getLast? = some q := by
        rw [List.getLast?_drop, if_neg (by have : 0 < s.length := List.length_pos_iff.2 hS.1; rw [List.length_append]; omega), List.getLast?_append, hq]; rfl
      exact List.mem_of_getLast? hl
    have h1 := hS.2 q hq (hk q hqm)
    have hlen : (r ++ [s]).length - (n + 1) = r.length - n := by rw [List.length_append]; show r.length + 1 - (n + 1) = _; omega
    rw [hlen]
    have hn' : n ≤ r.length := by rw [List.length_append] at hn; simpa using hn
    rw [List.drop_append_of_le_length (by omega)]
    have ih := nums_alone n r hn' (fun s' h' => hs s' (by simp [h'])) (fun a ha => hk a (by
      have e : (r.flatten ++ s).length - (n + 1) = r.flatten.length - n := by rw [List.length_append, h1]; show r.flatten.length + 1 - (n + 1) = _; omega
      rw [e, List.drop_append_of_le_length (by omega)]
      exact List.mem_append_left _ ha))
    intro s' h'
    rcases List.mem_append.1 h' with h' | h'
    · exact ih s' h'
    · rw [List.mem_singleton.1 h', h1]; rfl
theorem flat_len1 : ∀ (segs : List (List Pt)), (∀ s ∈ segs, s.length = 1) → segs.flatten.length = segs.length
  | [], _ => rfl
  | s :: r, h => by rw [List.flatten_cons, List.length_append, h s (by simp), flat_len1 r (fun s' h' => h s' (by simp [h'])), List.length_cons]; omega
theorem reck_all {p q : Pt} {on : List Pt} (h : reckP p on = some q) : ∀ a ∈ on, a.kind = 1 := fun a ha => by
  unfold reckP at h
  split at h
  · exact absurd h (by simp)
  · rename_i hn
    by_cases e : a.kind = 1
    · exact e
    · exact absurd (List.any_eq_true.2 ⟨a, ha, by simpa using e⟩) hn
theorem fold_step (p : Pt) (segs : List (List Pt)) (hs : ∀ s ∈ segs, Sg s) (hn : takes p ≤ segs.length) :
    foldS segs.flatten p = (segs.take (segs.length - takes p)).flatten ++ segF p (segs.drop (segs.length - takes p)) := by
  have hsplit : segs.flatten = (segs.take (segs.length - takes p)).flatten ++ (segs.drop (segs.length - takes p)).flatten := by
    rw [← List.flatten_append, List.take_append_drop]
  have hdl : (segs.drop (segs.length - takes p)).length = takes p := by rw [List.length_drop]; omega
  by_cases hall : ∀ s ∈ segs.drop (segs.length - takes p), s.length = 1
  · have hfl := flat_len1 _ hall
    have hd : segs.flatten.drop (segs.flatten.length - takes p) = (segs.drop (segs.length - takes p)).flatten := by
      conv => lhs; rw [hsplit]
      rw [List.drop_left']
      rw [List.length_append, hfl, hdl]; omega
    have ht : segs.flatten.take (segs.flatten.length - takes p) = (segs.take (segs.length - takes p)).flatten := by
      conv => lhs; rw [hsplit]
      rw [List.take_left']
      rw [List.length_append, hfl, hdl]; omega
    unfold foldS segF
    rw [hd, ht, if_pos (by rw [List.all_eq_true]; exact fun s h => decide_eq_true (hall s h))]
    split
    · rfl
    · rw [← List.append_assoc, ← hsplit]
  · have hno : reckP p (segs.flatten.drop (segs.flatten.length - takes p)) = none := by
      cases h : reckP p (segs.flatten.drop (segs.flatten.length - takes p)) with
      | none => rfl
      | some q => exact absurd (nums_alone (takes p) segs hn hs (reck_all h)) hall
    unfold foldS segF
    rw [hno, if_neg (by rw [List.all_eq_true]; exact fun h => hall fun s hs' => of_decide_eq_true (h s hs')), ← List.append_assoc, ← hsplit]
theorem fold_run : ∀ (x : List Pt) (segs segs' : List (List Pt)), Wf x segs.length → (∀ s ∈ segs, Sg s) → mRun partF x segs = .ok segs' → x.foldl foldS segs.flatten = segs'.flatten ∧ ∀ s ∈ segs', Sg s
  | [], segs, segs', _, hs, h => by obtain rfl := Except.ok.inj (show Except.ok (ε := Int) segs = .ok segs' from h); exact ⟨rfl, hs⟩
  | p :: x, segs, segs', hw, hs, h => by
    have e : mStep partF p segs = .ok (segs.take (segs.length - takes p) ++ [segF p (segs.drop (segs.length - takes p))]) := rfl
    have h' : (match mStep partF p segs with | .error e => Except.error e | .ok s1 => mRun partF x s1) = .ok segs' := h
    rw [e] at h'
    have hs1 : ∀ s ∈ segs.take (segs.length - takes p) ++ [segF p (segs.drop (segs.length - takes p))], Sg s := fun s h => by
      rcases List.mem_append.1 h with h | h
      · exact hs s (List.mem_of_mem_take h)
      · rw [List.mem_singleton.1 h]
        refine sg_seg _ fun h1 => ?_
        have : takes p = 0 := by unfold takes; rw [h1]; rfl
        rw [this, Nat.sub_zero, List.drop_length]
    have := fold_run x _ segs' (by rw [step_len e hw.1]; exact hw.2) hs1 h'
    rw [List.flatten_append, List.flatten_singleton, ← fold_step p segs hs hw.1] at this
    exact this
def foldT (e : Ex) : List Pt := match evT partF e with
  | .ok s => s
  | .error _ => []
theorem evF_ok : ∀ e : Ex, ∃ s, evT partF e = .ok s
  | .leaf p => ⟨_, rfl⟩
  | .one p e => by
    obtain ⟨s, h⟩ := evF_ok e
    exact ⟨segF p [s], by rw [evT_one, h]; rfl⟩
  | .two p a b => by
    obtain ⟨s, h⟩ := evF_ok a
    obtain ⟨s', h'⟩ := evF_ok b
    exact ⟨segF p [s, s'], by rw [evT_two, h, h']; rfl⟩
theorem foldT_leaf (p : Pt) : foldT (.leaf p) = segF p [] := rfl
theorem foldT_one (p : Pt) (e : Ex) : foldT (.one p e) = segF p [foldT e] := by
  obtain ⟨s, h⟩ := evF_ok e
  have : evT partF (.one p e) = .ok (segF p [s]) := by rw [evT_one, h]; rfl
  unfold foldT; rw [this, h]
theorem foldT_two (p : Pt) (a b : Ex) : foldT (.two p a b) = segF p [foldT a, foldT b] := by
  obtain ⟨s, h⟩ := evF_ok a
  obtain ⟨s', h'⟩ := evF_ok b
  have : evT partF (.two p a b) = .ok (segF p [s, s']) := by rw [evT_two, h, h']; rfl
  unfold foldT; rw [this, h, h']
theorem foldP_tree {e : Ex} (h : well e) : foldP (flat e) = foldT e := by
  obtain ⟨s, hs⟩ := evF_ok e
  have hr := run_tree partF h
  rw [hs] at hr
  have := (fold_run (flat e) [] [s] (wf_tree h) (by simp) hr).1
  unfold foldP foldT
  rw [hs]
  simpa using this
end Go.Proofs.YtldjiieckddhkaaGreatDoor
namespace Go.Proofs.YtldjiieckddhkaaGreatDoor
def giveT (t : Int) : Ex → Ex
  | .leaf p => .leaf (give1 t p)
  | .one p e => .one p (giveT t e)
  | .two p a b => .two p (giveT t a) (giveT t b)
theorem takes_num {p : Pt} (h : takes p ≠ 0) : p.kind ≠ 1 := fun e => h (by unfold takes; rw [e]; rfl)
theorem give_flat (t : Int) : ∀ {e : Ex}, well e → flat (giveT t e) = giveP t (flat e)
  | .leaf p, _ => rfl
  | .one p e, h => by
    show flat (giveT t e) ++ [p] = (flat e ++ [p]).map (give1 t)
    rw [give_flat t h.2.2, List.map_append]
    show _ = _ ++ [give1 t p]
    rw [give1, if_neg (takes_num (by rw [h.1]; decide))]; rfl
  | .two p a b, h => by
    show flat (giveT t a) ++ (flat (giveT t b) ++ [p]) = (flat a ++ (flat b ++ [p])).map (give1 t)
    rw [give_flat t h.2.2.1, give_flat t h.2.2.2, List.map_append, List.map_append]
    show _ = _ ++ (_ ++ [give1 t p])
    rw [give1, if_neg (takes_num (by rw [h.1]; decide))]; rfl
theorem give_dep (t : Int) : ∀ e : Ex, dep (giveT t e) = dep e
  | .leaf p => rfl
  | .one p e => by show dep (giveT t e) + 1 = _; rw [give_dep t e]; rfl
  | .two p a b => by show max (dep (giveT t b)) (dep (giveT t a)) + 1 = _; rw [give_dep t a, give_dep t b]; rfl
def kt (vs : List Vr) (e : Ex) : Kd := match evT (partK vs) e with
  | .ok k => k
  | .error _ => kT 0
theorem kt_ok {vs : List Vr} {e : Ex} {k : Kd} (h : evT (partK vs) e = .ok k) : kt vs e = k := by unfold kt; rw [h]
def resE (vs : List Vr) : Ex → Ex
  | .leaf p => .leaf p
  | .one p a => .one p (if (kt vs a).typ = 0 then giveT (askT p [(kt vs a).typ] (kt vs (.one p a)).typ (flat (resE vs a))) (resE vs a) else resE vs a)
  | .two p a b => .two p
    (if (kt vs a).typ = 0 then giveT (askT p [(kt vs a).typ, (kt vs b).typ] (kt vs (.two p a b)).typ (flat (resE vs a))) (resE vs a) else resE vs a)
    (if (kt vs b).typ = 0 then giveT (askT p [(kt vs a).typ, (kt vs b).typ] (kt vs (.two p a b)).typ (flat (resE vs b))) (resE vs b) else resE vs b)
theorem ev1_inv {V : Type} {f : Pt → List V → Except Int V} {p : Pt} {e : Ex} {v : V} (h : evT f (.one p e) = .ok v) : ∃ u, evT f e = .ok u ∧ f p [u] = .ok v := by
  rw [evT_one] at h
  cases he : evT f e with
  | error er => rw [he] at h; exact absurd h (by simp)
  | ok u => rw [he] at h; exact ⟨u, rfl, h⟩
theorem ev2_inv {V : Type} {f : Pt → List V → Except Int V} {p : Pt} {a b : Ex} {v : V} (h : evT f (.two p a b) = .ok v) : ∃ u u', evT f a = .ok u ∧ evT f b = .ok u' ∧ f p [u, u'] = .ok v := by
  rw [evT_two] at h
  cases ha : evT f a with
  | error er => rw [ha] at h; exact absurd h (by simp)
  | ok u =>
    rw [ha] at h
    cases hb : evT f b with
    | error er => rw [hb] at h; exact absurd h (by simp)
    | ok u' => rw [hb] at h; exact ⟨u, u', rfl, rfl, h⟩
theorem ev1_mk {V : Type} {f : Pt → List V → Except Int V} {p : Pt} {e : Ex} {u : V} (h : evT f e = .ok u) : evT f (.one p e) = f p [u] := by rw [evT_one, h]
theorem ev2_mk {V : Type} {f : Pt → List V → Except Int V} {p : Pt} {a b : Ex} {u u' : V} (h : evT f a = .ok u) (h' : evT f b = .ok u') : evT f (.two p a b) = f p [u, u'] := by rw [evT_two, h, h']
def InT (P : Pt → Prop) : Ex → Prop
  | .leaf p => p.kind = 1 → P p
  | .one _ e => InT P e
  | .two _ a b => InT P a ∧ InT P b
theorem InT.mono {P Q : Pt → Prop} (h : ∀ p, P p → Q p) : ∀ {e : Ex}, InT P e → InT Q e
  | .leaf p, hp => fun hk => h p (hp hk)
  | .one _ e, hp => InT.mono (e := e) h hp
  | .two _ a b, hp => ⟨InT.mono (e := a) h hp.1, InT.mono (e := b) h hp.2⟩
def Bare : Ex → Prop
  | .leaf p => p.kind = 1 ∧ p.t = 0
  | .one p e => p.kind = 5 ∧ (p.n = 15 ∨ p.n = 16) ∧ Bare e
  | .two p a b => p.kind = 5 ∧ (1 ≤ p.n ∧ p.n ≤ 8) ∧ Bare a ∧ Bare b
def vOk (vs : List Vr) : Prop := ∀ v ∈ vs, varB v = true
theorem find_mem : ∀ {vs : List Vr} {s : Bs} {a : Bool × Bool} {v : Vr}, findV vs s a = .ok v → v ∈ vs ∧ shV v = a
  | [], s, a, v, h => by exact absurd h (by simp [findV])
  | u :: r, s, a, v, h => by
    rw [findV] at h
    split at h
    · split at h
      · rename_i hs
        rw [← Except.ok.inj h]; exact ⟨by simp, hs⟩
      · exact absurd h (by simp)
    · exact ⟨by simp [(find_mem h).1], (find_mem h).2⟩
theorem var_ty {v : Vr} (h : varB v = true) : (1 ≤ v.ty ∧ v.ty ≤ 4) ∨ (101 ≤ v.ty ∧ v.ty ≤ 110) := by
  unfold varB tyW at h
  simp only [Bool.and_eq_true, Bool.or_eq_true, decide_eq_true_eq] at h
  exact h.2.1
theorem find_ty {vs : List Vr} {s : Bs} {b : Bool} {v : Vr} (hv : vOk vs) (h : findV vs s (b, false) = .ok v) : 1 ≤ v.ty ∧ v.ty ≤ 4 := by
  obtain ⟨hm, hs⟩ := find_mem h
  have h2 : decide (100 < v.ty) = false := congrArg Prod.snd hs
  have := of_decide_eq_false h2
  rcases var_ty (hv v hm) with h | h
  · exact h
  · omega
theorem fld_ty {v : Vr} {f : Bs} {r : Bs × Int × Bool} (h : fldV v f = some r) : 1 ≤ r.2.1 ∧ r.2.1 ≤ 4 := by
  have hm := List.mem_of_find?_eq_some h
  have : ∀ (k : Int) r, r ∈ fldR k → 1 ≤ r.2.1 ∧ r.2.1 ≤ 4 := fun k r hr => by
    unfold fldR at hr
    repeat' (split at hr)
    all_goals (simp only [List.mem_cons, List.not_mem_nil, or_false] at hr)
    all_goals (first | (rcases hr with rfl | rfl | rfl | rfl | rfl | rfl <;> decide) | (rcases hr with rfl | rfl | rfl <;> decide))
  exact this _ r hm
theorem res_dec {op t : Int} (ho : 1 ≤ op ∧ op ≤ 16) (ht : 1 ≤ t ∧ t ≤ 4) : Four.resN op t = if decide (t = 1) && (decide (op ≤ 5) || (decide (11 ≤ op) && decide (op ≤ 15))) || decide (t = 4) && ((decide (3 ≤ op) && decide (op ≤ 8)) || decide (op = 16)) then (0, 40) else if 9 ≤ op ∧ op ≤ 14 then (1, 0) else (t, 0) := by
  have h1 : op = 1 ∨ op = 2 ∨ op = 3 ∨ op = 4 ∨ op = 5 ∨ op = 6 ∨ op = 7 ∨ op = 8 ∨ op = 9 ∨ op = 10 ∨ op = 11 ∨ op = 12 ∨ op = 13 ∨ op = 14 ∨ op = 15 ∨ op = 16 := by omega
  have h2 : t = 1 ∨ t = 2 ∨ t = 3 ∨ t = 4 := by omega
  rcases h1 with rfl | rfl | rfl | rfl | rfl | rfl | rfl | rfl | rfl | rfl | rfl | rfl | rfl | rfl | rfl | rfl <;> rcases h2 with rfl | rfl | rfl | rfl <;> decide
end Go.Proofs.YtldjiieckddhkaaGreatDoor
namespace Go.Proofs.YtldjiieckddhkaaGreatDoor
theorem kFits_inv {k : Kd} {t : Int} (h : kFits k t = 0) : (k.typ ≠ 0 ∧ k = kT t) ∨ (k.typ = 0 ∧ (t = 2 ∨ t = 3) ∧ fit6 t k.lo = true ∧ fit6 t k.hi = true) := by
  unfold kFits at h
  split at h
  · rename_i h1; exact .inl h1
  split at h
  · exact absurd h (by decide)
  split at h
  · exact absurd h (by decide)
  · rename_i h2 h3
    refine .inr ⟨?_, ?_, ?_, ?_⟩
    · exact Decidable.byContradiction fun e => h2 (.inl e)
    · by_cases e : t = 2
      · exact .inl e
      · by_cases e' : t = 3
        · exact .inr e'
        · exact absurd (.inr ⟨e, e'⟩) h2
    · cases e : fit6 t k.lo with
      | true => rfl
      | false => exact absurd (.inl e) h3
    · cases e : fit6 t k.hi with
      | true => rfl
      | false => exact absurd (.inr e) h3
theorem kFits_same {t : Int} (h : t ≠ 0) : kFits (kT t) t = 0 := by unfold kFits; rw [if_pos ⟨h, rfl⟩]
theorem kAmong_inv {k : Kd} {ts : List Int} (h : kAmong k ts = 0) : (∃ t ∈ ts, k = kT t) ∨ kFits k 3 = 0 := by
  unfold kAmong at h
  split at h
  · rename_i h1
    obtain ⟨t, ht, e⟩ := List.any_eq_true.1 h1
    exact .inl ⟨t, ht, of_decide_eq_true e⟩
  · exact .inr h
theorem opK_inv {op : Int} {l r k : Kd} (h : opK op l r = .ok k) :
    (l.typ = 0 ∧ r.typ = 0 ∧ Four.resN op 3 = (3, 0) ∧ k = kWith l r) ∨
    ((Four.resN op (tyOr l (tyOr r 3))).2 = 0 ∧ kFits l (tyOr l (tyOr r 3)) = 0 ∧ kFits r (tyOr l (tyOr r 3)) = 0 ∧ k = kT (Four.resN op (tyOr l (tyOr r 3))).1 ∧ ¬ (l.typ = 0 ∧ r.typ = 0 ∧ (Four.resN op 3).1 = 3)) := by
  unfold opK at h
  split at h
  · exact absurd h (by simp)
  rename_i h0
  have h0' : (Four.resN op (tyOr l (tyOr r 3))).2 = 0 := Decidable.byContradiction h0
  split at h
  · rename_i h1
    obtain ⟨a, b, c⟩ := h1
    have e : tyOr l (tyOr r 3) = 3 := by unfold tyOr; rw [if_pos a, if_pos b]
    rw [e] at c h0'
    exact .inl ⟨a, b, Prod.ext c h0', (Except.ok.inj h).symm⟩
  rename_i h1
  split at h
  · exact absurd h (by simp)
  rename_i h2
  split at h
  · exact absurd h (by simp)
  rename_i h3
  refine .inr ⟨h0', Decidable.byContradiction h2, Decidable.byContradiction h3, (Except.ok.inj h).symm, fun hh => h1 ⟨hh.1, hh.2.1, ?_⟩⟩
  have e : tyOr l (tyOr r 3) = 3 := by unfold tyOr; rw [if_pos hh.1, if_pos hh.2.1]
  rw [e]; exact hh.2.2
theorem opK_bare {op : Int} {l r : Kd} (hl : l.typ = 0) (hr : r.typ = 0) (h : Four.resN op 3 = (3, 0)) : opK op l r = .ok (kWith l r) := by
  have e : tyOr l (tyOr r 3) = 3 := by unfold tyOr; rw [if_pos hl, if_pos hr]
  unfold opK
  rw [e, h, if_neg (by decide), if_pos ⟨hl, hr, rfl⟩]
theorem opK_typed {op t : Int} (ht : t ≠ 0) (h : (Four.resN op t).2 = 0) : opK op (kT t) (kT t) = .ok (kT (Four.resN op t).1) := by
  have e : tyOr (kT t) (tyOr (kT t) 3) = t := by unfold tyOr; rw [if_neg (show ¬ (kT t).typ = 0 from ht)]; rfl
  unfold opK
  rw [e, if_neg (by rw [h]; decide), if_neg (fun hh => ht hh.1), kFits_same ht, if_neg (by decide), if_neg (by decide)]
theorem tyOr_pos {l r : Kd} (h : l.typ ≠ 0 → 1 ≤ l.typ ∧ l.typ ≤ 4) (h' : r.typ ≠ 0 → 1 ≤ r.typ ∧ r.typ ≤ 4) : 1 ≤ tyOr l (tyOr r 3) ∧ tyOr l (tyOr r 3) ≤ 4 := by
  unfold tyOr
  split
  · split
    · omega
    · exact h' ‹_›
  · exact h ‹_›
theorem res_range {op t : Int} (ho : 1 ≤ op ∧ op ≤ 16) (ht : 1 ≤ t ∧ t ≤ 4) (h : (Four.resN op t).2 = 0) : (Four.resN op t).1 = (if 9 ≤ op ∧ op ≤ 14 then 1 else t) := by
  rw [res_dec ho ht] at h ⊢
  split at h
  · exact absurd h (by decide)
  · rename_i h1
    rw [if_neg h1]
    split <;> rfl
theorem res_three {op : Int} (ho : 1 ≤ op ∧ op ≤ 16) : (Four.resN op 3 = (3, 0) ∧ Four.resN op 2 = (2, 0) ∧ ¬ (9 ≤ op ∧ op ≤ 14)) ∨ (Four.resN op 3 = (1, 0) ∧ Four.resN op 2 = (1, 0) ∧ 9 ≤ op ∧ op ≤ 14) := by
  rw [res_dec ho (by omega), res_dec ho (by omega)]
  by_cases h : 9 ≤ op ∧ op ≤ 14
  · refine .inr ⟨?_, ?_, h⟩ <;> (rw [if_pos h]; rfl)
  · refine .inl ⟨?_, ?_, h⟩ <;> (rw [if_neg h]; rfl)
theorem may_kind {p : Pt} (h : mayP p = true) : 1 ≤ p.kind ∧ p.kind ≤ 6 := by
  unfold mayP at h
  repeat' (split at h)
  all_goals (first | omega | exact absurd h (by decide))
theorem mayp_num {p : Pt} (hk : p.kind = 1) (h : mayP p = true) : p.s = [] ∧ p.f = [] ∧ (p.t = 0 ∨ fit6 p.t p.n = true) := by
  unfold mayP at h
  rw [if_pos hk, Bool.and_eq_true, Bool.and_eq_true] at h
  refine ⟨of_decide_eq_true h.1, of_decide_eq_true h.2.1, ?_⟩
  by_cases e : p.t = 0
  · exact .inl e
  · have := h.2.2
    rw [if_neg e] at this
    exact .inr this
theorem fit_t {t n : Int} (h : fit6 t n = true) : 1 ≤ t ∧ t ≤ 4 := by
  unfold fit6 at h
  repeat' (split at h)
  all_goals (first | omega | exact absurd h (by decide))
theorem fit_mid {t a b n : Int} (ht : t = 2 ∨ t = 3) (ha : fit6 t a = true) (hb : fit6 t b = true) (h1 : a ≤ n) (h2 : n ≤ b) : fit6 t n = true := by
  rcases ht with rfl | rfl
  all_goals
    simp only [fit6] at ha hb ⊢
    simp at ha hb ⊢
    omega
theorem give_zero : ∀ {e : Ex}, Bare e → giveT 0 e = e
  | .leaf p, h => by
    show Ex.leaf (give1 0 p) = _
    obtain ⟨h1, h2⟩ := h
    rw [give1, if_pos h1]
    cases p; cases h2; rfl
  | .one p e, h => by show Ex.one p (giveT 0 e) = _; rw [give_zero h.2.2]
  | .two p a b, h => by show Ex.two p (giveT 0 a) (giveT 0 b) = _; rw [give_zero h.2.2.1, give_zero h.2.2.2]
theorem partK_five {vs : List Vr} {p : Pt} (h : p.kind = 5) (on : List Kd) : partK vs p on = opK p.n (on.headD (kT 0)) (on.getLastD (kT 0)) := by
  unfold partK
  rw [if_neg (by omega), if_neg (by omega), if_neg (by omega), if_neg (by omega), if_neg (by omega)]
theorem partK_num {vs : List Vr} {p : Pt} (h : p.kind = 1) (on : List Kd) : partK vs p on = .ok (if p.t = 0 then ⟨0, p.n, p.n⟩ else kT p.t) := by
  unfold partK
  rw [if_pos h]
theorem two_kind {p : Pt} (h : takes p = 2) (hm : mayP p = true) : p.kind = 5 ∧ 1 ≤ p.n ∧ p.n ≤ 14 := by
  obtain ⟨h1, h2⟩ := takes2 h
  obtain ⟨-, h3, h4⟩ := may5 h1 hm
  exact ⟨h1, h3, by omega⟩
theorem leaf_kind {vs : List Vr} (hv : vOk vs) {p : Pt} (ht : takes p = 0) (hm : mayP p = true) {k : Kd} (h : partK vs p [] = .ok k) :
    (p.kind = 1 ∧ p.t = 0 ∧ k = ⟨0, p.n, p.n⟩) ∨ ((p.kind = 1 → p.t ≠ 0) ∧ k = kT k.typ ∧ 1 ≤ k.typ ∧ k.typ ≤ 4) := by
  have hk := may_kind hm
  have h36 : p.kind ≠ 3 ∧ p.kind ≠ 6 ∧ p.kind ≠ 5 := by
    unfold takes at ht
    refine ⟨fun e => ?_, fun e => ?_, fun e => ?_⟩
    · rw [if_pos (.inl e)] at ht; exact absurd ht (by decide)
    · rw [if_pos (.inr e)] at ht; exact absurd ht (by decide)
    · rw [e, if_neg (by decide)] at ht
      split at ht
      · exact absurd ht (by decide)
      · exact absurd ht (by decide)
  have hc : p.kind = 1 ∨ p.kind = 2 ∨ p.kind = 4 := by omega
  rcases hc with e | e | e
  · rw [partK_num e] at h
    have h := Except.ok.inj h
    by_cases e0 : p.t = 0
    · rw [if_pos e0] at h; exact .inl ⟨e, e0, h.symm⟩
    · rw [if_neg e0] at h
      obtain ⟨-, -, hf⟩ := mayp_num e hm
      rcases hf with hf | hf
      · exact absurd hf e0
      · subst h; exact .inr ⟨fun _ => e0, rfl, fit_t hf⟩
  · unfold partK at h
    rw [if_neg (by omega), if_pos e] at h
    split at h
    · exact absurd h (by simp)
    · rename_i v hf
      have h := Except.ok.inj h
      subst h
      exact .inr ⟨fun e' => by omega, rfl, find_ty hv hf⟩
  · unfold partK at h
    rw [if_neg (by omega), if_neg (by omega), if_neg (by omega), if_pos e] at h
    split at h
    · exact absurd h (by simp)
    · split at h
      · exact absurd h (by simp)
      · rename_i r hf
        have h := Except.ok.inj h
        subst h
        exact .inr ⟨fun e' => by omega, rfl, fld_ty hf⟩
theorem one_kind {vs : List Vr} (hv : vOk vs) {p : Pt} (ht : takes p = 1) (hm : mayP p = true) {u k : Kd} (h : partK vs p [u] = .ok k) :
    (p.kind = 5 ∧ (p.n = 15 ∨ p.n = 16) ∧ opK p.n u u = .ok k) ∨
    (p.kind = 3 ∧ kAmong u [2] = 0 ∧ (∃ v, findV vs p.s (true, false) = .ok v ∧ k = kT v.ty) ∧ k = kT k.typ ∧ 1 ≤ k.typ ∧ k.typ ≤ 4) ∨
    (p.kind = 6 ∧ kAmong u [2, 4] = 0 ∧ k = kT p.t ∧ 2 ≤ p.t ∧ p.t ≤ 4) := by
  rcases takes1 ht with e | e | ⟨e, e'⟩
  · unfold partK at h
    rw [if_neg (by omega), if_neg (by omega), if_pos e] at h
    split at h
    · exact absurd h (by simp)
    · rename_i v hf
      split at h
      · exact absurd h (by simp)
      · rename_i ha
        have h := Except.ok.inj h
        subst h
        exact .inr (.inl ⟨e, Decidable.byContradiction ha, ⟨v, hf, rfl⟩, rfl, find_ty hv hf⟩)
  · unfold partK at h
    rw [if_neg (by omega), if_neg (by omega), if_neg (by omega), if_neg (by omega), if_pos e] at h
    split at h
    · exact absurd h (by simp)
    · rename_i ha
      have h := Except.ok.inj h
      obtain ⟨-, h6⟩ := may6 e hm
      exact .inr (.inr ⟨e, Decidable.byContradiction ha, h.symm, by omega, by omega⟩)
  · rw [partK_five e] at h
    exact .inl ⟨e, e', h⟩
theorem k_form {vs : List Vr} (hv : vOk vs) : ∀ {e : Ex} {k : Kd}, well e → evT (partK vs) e = .ok k → k.typ ≠ 0 → k = kT k.typ ∧ 1 ≤ k.typ ∧ k.typ ≤ 4
  | .leaf p, k, hw, h, h0 => by
    rcases leaf_kind hv hw.1 hw.2 h with ⟨-, -, rfl⟩ | ⟨-, h⟩
    · exact absurd rfl h0
    · exact h
  | .one p e, k, hw, h, h0 => by
    obtain ⟨u, hu, hp⟩ := ev1_inv h
    have ih := k_form hv hw.2.2 hu
    rcases one_kind hv hw.1 hw.2.1 hp with ⟨-, hn, hp⟩ | ⟨-, -, -, h9⟩ | ⟨-, -, rfl, h9⟩
    · rcases opK_inv hp with ⟨-, -, -, rfl⟩ | ⟨hr, -, -, rfl, -⟩
      · exact absurd rfl h0
      · have ht := tyOr_pos (l := u) (r := u) (fun h => (ih h).2) (fun h => (ih h).2)
        show kT (Four.resN p.n (tyOr u (tyOr u 3))).1 = kT (kT (Four.resN p.n (tyOr u (tyOr u 3))).1).typ ∧ 1 ≤ (Four.resN p.n (tyOr u (tyOr u 3))).1 ∧ (Four.resN p.n (tyOr u (tyOr u 3))).1 ≤ 4
        rw [res_range (by omega) ht hr]
        refine ⟨rfl, ?_⟩
        split <;> omega
    · exact h9
    · exact ⟨rfl, by show 1 ≤ p.t; omega, h9.2⟩
  | .two p a b, k, hw, h, h0 => by
    obtain ⟨u, u', hu, hu', hp⟩ := ev2_inv h
    have ih := k_form hv hw.2.2.1 hu
    have ih' := k_form hv hw.2.2.2 hu'
    obtain ⟨h5, hn⟩ := two_kind hw.1 hw.2.1
    rw [partK_five h5] at hp
    rcases opK_inv hp with ⟨-, -, -, rfl⟩ | ⟨hr, -, -, rfl, -⟩
    · exact absurd rfl h0
    · have ht := tyOr_pos (l := u) (r := u') (fun h => (ih h).2) (fun h => (ih' h).2)
      have hr' : (Four.resN p.n (tyOr u (tyOr u' 3))).2 = 0 := hr
      show kT (Four.resN p.n (tyOr u (tyOr u' 3))).1 = kT (kT (Four.resN p.n (tyOr u (tyOr u' 3))).1).typ ∧ 1 ≤ (Four.resN p.n (tyOr u (tyOr u' 3))).1 ∧ (Four.resN p.n (tyOr u (tyOr u' 3))).1 ≤ 4
      rw [res_range (by omega) ht hr']
      refine ⟨rfl, ?_⟩
      split <;> omega
theorem bare {vs : List Vr} (hv : vOk vs) : ∀ {e : Ex} {k : Kd}, well e → evT (partK vs) e = .ok k → k.typ = 0 →
    Bare e ∧ InT (fun p => k.lo ≤ p.n ∧ p.n ≤ k.hi) e ∧ resE vs e = e
  | .leaf p, k, hw, h, h0 => by
    rcases leaf_kind hv hw.1 hw.2 h with ⟨h1, h2, rfl⟩ | ⟨-, h⟩
    · exact ⟨⟨h1, h2⟩, fun _ => ⟨Int.le_refl _, Int.le_refl _⟩, rfl⟩
    · exact absurd h0 (by omega)
  | .one p e, k, hw, h, h0 => by
    obtain ⟨u, hu, hp⟩ := ev1_inv h
    rcases one_kind hv hw.1 hw.2.1 hp with ⟨h5, hn, hp⟩ | ⟨-, -, -, h9⟩ | ⟨-, -, rfl, h9⟩
    · rcases opK_inv hp with ⟨hu0, -, -, rfl⟩ | ⟨hr, -, -, rfl, -⟩
      · obtain ⟨hb, hi, hres⟩ := bare hv hw.2.2 hu hu0
        refine ⟨⟨h5, hn, hb⟩, hi.mono fun q hq => ?_, ?_⟩
        · show min u.lo u.lo ≤ q.n ∧ q.n ≤ max u.hi u.hi
          omega
        · show Ex.one p (if (kt vs e).typ = 0 then _ else _) = _
          rw [kt_ok hu, if_pos hu0, kt_ok h, hres]
          have : askT p [u.typ] (kWith u u).typ (flat e) = 0 := by unfold askT; rw [if_neg (by omega), if_neg (by omega), if_pos (show (kWith u u).typ = 0 from rfl)]
          rw [this, give_zero hb]
      · have ht := tyOr_pos (l := u) (r := u) (fun h => (k_form hv hw.2.2 hu h).2) (fun h => (k_form hv hw.2.2 hu h).2)
        have h0' : (Four.resN p.n (tyOr u (tyOr u 3))).1 = 0 := h0
        rw [res_range (by omega) ht hr] at h0'
        split at h0' <;> omega
    · exact absurd h0 (by omega)
    · exact absurd (show p.t = 0 from h0) (by omega)
  | .two p a b, k, hw, h, h0 => by
    obtain ⟨u, u', hu, hu', hp⟩ := ev2_inv h
    obtain ⟨h5, hn⟩ := two_kind hw.1 hw.2.1
    rw [partK_five h5] at hp
    rcases opK_inv hp with ⟨hu0, hu0', h3, rfl⟩ | ⟨hr, -, -, rfl, -⟩
    · have hu0' : u'.typ = 0 := hu0'
      have hu0 : u.typ = 0 := hu0
      obtain ⟨hb, hi, hres⟩ := bare hv hw.2.2.1 hu hu0
      obtain ⟨hb', hi', hres'⟩ := bare hv hw.2.2.2 hu' hu0'
      have h8 : p.n ≤ 8 := by
        rcases res_three (op := p.n) (by omega) with ⟨-, -, h⟩ | ⟨h, -⟩
        · omega
        · rw [h] at h3; exact absurd h3 (by decide)
      refine ⟨⟨h5, ⟨hn.1, h8⟩, hb, hb'⟩, ⟨hi.mono fun q hq => ?_, hi'.mono fun q hq => ?_⟩, ?_⟩
      · show min u.lo u'.lo ≤ q.n ∧ q.n ≤ max u.hi u'.hi
        omega
      · show min u.lo u'.lo ≤ q.n ∧ q.n ≤ max u.hi u'.hi
        omega
      · show Ex.two p (if (kt vs a).typ = 0 then _ else _) (if (kt vs b).typ = 0 then _ else _) = _
        rw [kt_ok hu, kt_ok hu', if_pos hu0, if_pos hu0', kt_ok h, hres, hres']
        have : ∀ l, askT p [u.typ, u'.typ] (kWith u u').typ l = 0 := fun l => by unfold askT; rw [if_neg (by omega), if_neg (by omega), if_pos (show (kWith u u').typ = 0 from rfl)]
        show Ex.two p (giveT (askT p [u.typ, u'.typ] (kWith u u').typ (flat a)) a) (giveT (askT p [u.typ, u'.typ] (kWith u u').typ (flat b)) b) = _
        rw [this, this, give_zero hb, give_zero hb']
    · have ht := tyOr_pos (l := u) (r := u') (fun h => (k_form hv hw.2.2.1 hu h).2) (fun h => (k_form hv hw.2.2.2 hu' h).2)
      have h0' : (Four.resN p.n (tyOr u (tyOr u' 3))).1 = 0 := h0
      rw [res_range (by omega) ht hr] at h0'
      split at h0' <;> omega
theorem give_kind (vs : List Vr) {t : Int} (ht : t = 2 ∨ t = 3) : ∀ {e : Ex}, Bare e → well e → InT (fun p => fit6 t p.n = true) e →
    evT (partK vs) (giveT t e) = .ok (kT t) ∧ well (giveT t e) ∧ InT (fun p => p.t ≠ 0) (giveT t e)
  | .leaf p, hb, hw, hi => by
    obtain ⟨h1, h2⟩ := hb
    obtain ⟨hs, hf, -⟩ := mayp_num h1 hw.2
    have e : giveT t (.leaf p) = .leaf ⟨1, [], [], p.n, t⟩ := by show Ex.leaf (give1 t p) = _; rw [give1, if_pos h1, h1, hs, hf]
    rw [e]
    have t0 : t ≠ 0 := by omega
    refine ⟨?_, ⟨rfl, ?_⟩, fun _ => t0⟩
    · show partK vs ⟨1, [], [], p.n, t⟩ [] = _
      rw [partK_num rfl]
      show Except.ok (if t = 0 then _ else _) = _
      rw [if_neg t0]
    · unfold mayP
      rw [if_pos rfl]
      show (true && (true && if t = 0 then _ else _)) = true
      rw [if_neg t0, hi h1]; rfl
  | .one p e, hb, hw, hi => by
    obtain ⟨h1, h2, h3⟩ := give_kind vs ht hb.2.2 hw.2.2 hi
    refine ⟨?_, ⟨hw.1, hw.2.1, h2⟩, h3⟩
    show evT (partK vs) (.one p (giveT t e)) = _
    rw [ev1_mk h1, partK_five hb.1]
    have hr : Four.resN p.n t = (t, 0) := by
      have hn := hb.2.1
      rcases res_three (op := p.n) (by omega) with ⟨h, h', -⟩ | ⟨-, -, h⟩
      · rcases ht with rfl | rfl
        · exact h'
        · exact h
      · omega
    show opK p.n (kT t) (kT t) = _
    rw [opK_typed (by omega) (by rw [hr]), hr]
  | .two p a b, hb, hw, hi => by
    obtain ⟨h1, h2, h3⟩ := give_kind vs ht hb.2.2.1 hw.2.2.1 hi.1
    obtain ⟨h1', h2', h3'⟩ := give_kind vs ht hb.2.2.2 hw.2.2.2 hi.2
    refine ⟨?_, ⟨hw.1, hw.2.1, h2, h2'⟩, h3, h3'⟩
    show evT (partK vs) (.two p (giveT t a) (giveT t b)) = _
    rw [ev2_mk h1 h1', partK_five hb.1]
    have hr : Four.resN p.n t = (t, 0) := by
      have hn := hb.2.1
      rcases res_three (op := p.n) (by omega) with ⟨h, h', -⟩ | ⟨-, -, h⟩
      · rcases ht with rfl | rfl
        · exact h'
        · exact h
      · omega
    show opK p.n (kT t) (kT t) = _
    rw [opK_typed (by omega) (by rw [hr]), hr]
end Go.Proofs.YtldjiieckddhkaaGreatDoor
