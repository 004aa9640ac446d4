/- Stages 9 and 10, plain: machines over the parts of an expression, and the same over trees; kinds of values. | Stage 10, plain: numbers take types, and what hangs on no name is reckoned; as the program goes, by machines. -/
import Derived.Test.YtldjiieckddhkaaGreatDoorMg13
namespace Go.Proofs.YtldjiieckddhkaaGreatDoor
section
variable {V : Type}
/-- one part: it takes its values off the end of the list, and puts what it makes there -/
def mStep (f : Pt → List V → Except Int V) (p : Pt) (st : List V) : Except Int (List V) :=
  match f p (st.drop (st.length - takes p)) with
  | .error e => Except.error e
  | .ok v => .ok (st.take (st.length - takes p) ++ [v])
def mRun (f : Pt → List V → Except Int V) : List Pt → List V → Except Int (List V)
  | [], st => .ok st
  | p :: x, st => match mStep f p st with
    | .error e => Except.error e
    | .ok st' => mRun f x st'
def evT (f : Pt → List V → Except Int V) : Ex → Except Int V
  | .leaf p => f p []
  | .one p e => match evT f e with
    | .error er => Except.error er
    | .ok v => f p [v]
  | .two p a b => match evT f a with
    | .error er => Except.error er
    | .ok va => match evT f b with
      | .error er => Except.error er
      | .ok vb => f p [va, vb]
theorem evT_one (f : Pt → List V → Except Int V) (p : Pt) (e : Ex) : evT f (.one p e) = match evT f e with
    | .error er => Except.error er
    | .ok v => f p [v] := by rw [evT]
theorem evT_two (f : Pt → List V → Except Int V) (p : Pt) (a b : Ex) : evT f (.two p a b) = match evT f a with
    | .error er => Except.error er
    | .ok va => match evT f b with
      | .error er => Except.error er
      | .ok vb => f p [va, vb] := by rw [evT]
theorem mStep_on (f : Pt → List V → Except Int V) (p : Pt) (st on : List V) (h : takes p = on.length) : mStep f p (st ++ on) = match f p on with
    | .error e => Except.error e
    | .ok v => .ok (st ++ [v]) := by
  unfold mStep
  have e : (st ++ on).length - takes p = st.length := by rw [h, List.length_append]; omega
  rw [e, List.drop_left' rfl, List.take_left' rfl]
theorem run_flat (f : Pt → List V → Except Int V) : ∀ {e : Ex}, well e → ∀ (r : List Pt) (st : List V), mRun f (flat e ++ r) st = match evT f e with
    | .error er => Except.error er
    | .ok v => mRun f r (st ++ [v])
  | .leaf p, h, r, st => by
    show (match mStep f p st with | .error e => Except.error e | .ok st' => mRun f r st') = _
    have := mStep_on f p st [] h.1
    rw [List.append_nil] at this
    rw [this]
    show _ = (match f p [] with | .error er => Except.error er | .ok v => mRun f r (st ++ [v]))
    cases f p [] <;> rfl
  | .one p e, h, r, st => by
    show mRun f ((flat e ++ [p]) ++ r) st = _
    rw [List.append_assoc, run_flat f h.2.2]
    show _ = (match (match evT f e with | .error er => Except.error er | .ok v => f p [v]) with | .error er => Except.error er | .ok v => mRun f r (st ++ [v]))
    cases evT f e with
    | error er => rfl
    | ok v =>
      show (match mStep f p (st ++ [v]) with | .error e => Except.error e | .ok st' => mRun f r st') = _
      rw [mStep_on f p st [v] h.1]
      show _ = (match f p [v] with | .error er => Except.error er | .ok v => mRun f r (st ++ [v]))
      cases f p [v] <;> rfl
  | .two p a b, h, r, st => by
    show mRun f ((flat a ++ (flat b ++ [p])) ++ r) st = _
    rw [List.append_assoc, run_flat f h.2.2.1]
    show _ = (match (match evT f a with | .error er => Except.error er | .ok va => match evT f b with | .error er => Except.error er | .ok vb => f p [va, vb]) with | .error er => Except.error er | .ok v => mRun f r (st ++ [v]))
    cases evT f a with
    | error er => rfl
    | ok va =>
      show mRun f ((flat b ++ [p]) ++ r) (st ++ [va]) = _
      rw [List.append_assoc, run_flat f h.2.2.2]
      show _ = (match (match evT f b with | .error er => Except.error er | .ok vb => f p [va, vb]) with | .error er => Except.error er | .ok v => mRun f r (st ++ [v]))
      cases evT f b with
      | error er => rfl
      | ok vb =>
        show (match mStep f p (st ++ [va] ++ [vb]) with | .error e => Except.error e | .ok st' => mRun f r st') = _
        rw [List.append_assoc, List.singleton_append, mStep_on f p st [va, vb] h.1]
        show _ = (match f p [va, vb] with | .error er => Except.error er | .ok v => mRun f r (st ++ [v]))
        cases f p [va, vb] <;> rfl
theorem run_tree (f : Pt → List V → Except Int V) {e : Ex} (h : well e) : mRun f (flat e) [] = match evT f e with
    | .error er => Except.error er
    | .ok v => .ok [v] := by
  have := run_flat f h [] []
  rw [List.append_nil] at this
  rw [this]
  cases evT f e <;> rfl
/-- each part finds its values -/
def Wf : List Pt → Nat → Prop
  | [], _ => True
  | p :: x, n => takes p ≤ n ∧ Wf x (n - takes p + 1)
theorem wf_flat : ∀ {e : Ex}, well e → ∀ (r : List Pt) (n : Nat), Wf (flat e ++ r) n ↔ Wf r (n + 1)
  | .leaf p, h, r, n => by
    show (takes p ≤ n ∧ Wf r (n - takes p + 1)) ↔ _
    rw [h.1]; simp
  | .one p e, h, r, n => by
    show Wf ((flat e ++ [p]) ++ r) n ↔ _
    rw [List.append_assoc, wf_flat h.2.2]
    show (takes p ≤ n + 1 ∧ Wf r (n + 1 - takes p + 1)) ↔ _
    rw [h.1]; simp
  | .two p a b, h, r, n => by
    show Wf ((flat a ++ (flat b ++ [p])) ++ r) n ↔ _
    rw [List.append_assoc, wf_flat h.2.2.1, List.append_assoc, wf_flat h.2.2.2]
    show (takes p ≤ n + 1 + 1 ∧ Wf r (n + 1 + 1 - takes p + 1)) ↔ _
    rw [h.1]; simp
theorem wf_tree {e : Ex} (h : well e) : Wf (flat e) 0 := by
  have := (wf_flat h [] 0).2 trivial
  rwa [List.append_nil] at this
theorem step_len {f : Pt → List V → Except Int V} {p : Pt} {st st' : List V} (h : mStep f p st = .ok st') (hl : takes p ≤ st.length) : st'.length = st.length - takes p + 1 := by
  unfold mStep at h
  split at h
  · exact absurd h (by simp)
  · rw [← Except.ok.inj h, List.length_append, List.length_take]
    show min _ _ + 1 = _
    omega
theorem run_snoc (f : Pt → List V → Except Int V) : ∀ (x : List Pt) (p : Pt) (st : List V), mRun f (x ++ [p]) st = match mRun f x st with
    | .error e => Except.error e
    | .ok st' => mStep f p st'
  | [], p, st => by
    show (match mStep f p st with | .error e => Except.error e | .ok st' => .ok st') = mStep f p st
    cases mStep f p st <;> rfl
  | q :: x, p, st => by
    show (match mStep f q st with | .error e => Except.error e | .ok st' => mRun f (x ++ [p]) st') = (match (match mStep f q st with | .error e => Except.error e | .ok st' => mRun f x st') with | .error e => Except.error e | .ok st' => mStep f p st')
    cases mStep f q st with
    | error e => rfl
    | ok st' => exact run_snoc f x p st'
theorem run_app (f : Pt → List V → Except Int V) : ∀ (x y : List Pt) (st : List V), mRun f (x ++ y) st = match mRun f x st with
    | .error e => Except.error e
    | .ok st' => mRun f y st'
  | [], y, st => rfl
  | q :: x, y, st => by
    show (match mStep f q st with | .error e => Except.error e | .ok st' => mRun f (x ++ y) st') = (match (match mStep f q st with | .error e => Except.error e | .ok st' => mRun f x st') with | .error e => Except.error e | .ok st' => mRun f y st')
    cases mStep f q st with
    | error e => rfl
    | ok st' => exact run_app f x y st'
theorem wf_at {f : Pt → List V → Except Int V} : ∀ {x : List Pt} {st st' : List V} {i : Nat} {p : Pt}, Wf x st.length → mRun f (x.take i) st = .ok st' → x[i]? = some p → takes p ≤ st'.length
  | [], st, st', i, p, _, _, hp => by simp at hp
  | q :: x, st, st', 0, p, hw, hr, hp => by
    obtain rfl := Except.ok.inj (show Except.ok (ε := Int) st = .ok st' from hr)
    obtain rfl := Option.some.inj (hp : some q = some p)
    exact hw.1
  | q :: x, st, st', i + 1, p, hw, hr, hp => by
    have hr' : (match mStep f q st with | .error e => Except.error e | .ok s1 => mRun f (x.take i) s1) = .ok st' := hr
    cases hs : mStep f q st with
    | error e => rw [hs] at hr'; exact absurd hr' (by simp)
    | ok s1 =>
      rw [hs] at hr'
      have hl := step_len hs hw.1
      exact wf_at (by rw [hl]; exact hw.2) hr' hp
theorem run_lens {f : Pt → List V → Except Int V} : ∀ {x : List Pt} {st st' : List V}, mRun f x st = .ok st' → Wf x st.length → st'.length ≤ st.length + x.length
  | [], st, st', h, _ => by rw [← Except.ok.inj (show Except.ok (ε := Int) st = .ok st' from h)]; simp
  | p :: x, st, st', h, hw => by
    have h' : (match mStep f p st with | .error e => Except.error e | .ok s1 => mRun f x s1) = .ok st' := h
    cases hs : mStep f p st with
    | error e => rw [hs] at h'; exact absurd h' (by simp)
    | ok s1 =>
      rw [hs] at h'
      have hl := step_len hs hw.1
      have := run_lens h' (by rw [hl]; exact hw.2)
      rw [List.length_cons]; omega
end
/-- what is known of a value: its type, or (0) the least and the greatest of its numbers -/
structure Kd where
  typ : Int
  lo : Int
  hi : Int
deriving DecidableEq
def kT (t : Int) : Kd := ⟨t, 0, 0⟩
def kFits (k : Kd) (t : Int) : Int :=
  if k.typ ≠ 0 ∧ k = kT t then 0 else if k.typ ≠ 0 ∨ (t ≠ 2 ∧ t ≠ 3) then 40 else if fit6 t k.lo = false ∨ fit6 t k.hi = false then 1 else 0
def kAmong (k : Kd) (ts : List Int) : Int := if ts.any (fun t => decide (k = kT t)) then 0 else kFits k 3
def kWith (a b : Kd) : Kd := ⟨0, min a.lo b.lo, max a.hi b.hi⟩
def tyOr (k : Kd) (t : Int) : Int := if k.typ = 0 then t else k.typ
def opK (op : Int) (l r : Kd) : Except Int Kd :=
  if (Four.resN op (tyOr l (tyOr r 3))).2 ≠ 0 then .error (Four.resN op (tyOr l (tyOr r 3))).2
  else if l.typ = 0 ∧ r.typ = 0 ∧ (Four.resN op (tyOr l (tyOr r 3))).1 = tyOr l (tyOr r 3) then .ok (kWith l r)
  else if kFits l (tyOr l (tyOr r 3)) ≠ 0 then .error (kFits l (tyOr l (tyOr r 3)))
  else if kFits r (tyOr l (tyOr r 3)) ≠ 0 then .error (kFits r (tyOr l (tyOr r 3)))
  else .ok (kT (Four.resN op (tyOr l (tyOr r 3))).1)
/-- a variable -/
structure Vr where
  name : Bs
  ty : Int
  len : Int
  init : Int
  dir : Int
/-- what it is: (an array, a block) -/
def shV (v : Vr) : Bool × Bool := (decide (0 < v.len), decide (100 < v.ty))
def findV : List Vr → Bs → Bool × Bool → Except Int Vr
  | [], _, _ => Except.error 90
  | v :: r, s, a => if v.name = s then (if shV v = a then .ok v else .error 91) else findV r s a
/-- the fields of a block: name, type, may it be set -/
def fldR (k : Int) : List (Bs × Int × Bool) :=
  if k = 1 ∨ k = 2 ∨ k = 3 then [([73, 78], 1, true), ([80, 84], 4, true), ([81], 1, false), ([69, 84], 4, false), ([83, 84, 65, 82, 84], 4, false), ([82, 85, 78], 1, false)]
  else if k = 4 then [([67, 85], 1, true), ([82], 1, true), ([80, 86], 2, true), ([81], 1, false), ([67, 86], 2, false), ([77], 1, false)]
  else if k = 5 then [([67, 68], 1, true), ([76, 68], 1, true), ([80, 86], 2, true), ([81], 1, false), ([67, 86], 2, false), ([77], 1, false)]
  else if k = 6 ∨ k = 7 then [([67, 76, 75], 1, true), ([81], 1, false), ([77], 1, false)]
  else if k = 8 then [([83, 49], 1, true), ([82], 1, true), ([81, 49], 1, false)]
  else if k = 9 then [([83], 1, true), ([82, 49], 1, true), ([81, 49], 1, false)]
  else if k = 10 then [([65], 1, true), ([66], 1, true), ([82], 1, true), ([67, 86], 3, false), ([69, 82, 82], 1, false), ([76, 65, 83, 84], 2, false)]
  else []
def fldV (v : Vr) (f : Bs) : Option (Bs × Int × Bool) := (fldR (v.ty - 100)).find? fun r => r.1 == f
/-- the kind of what a part makes of the values that it works on -/
def partK (vs : List Vr) (p : Pt) (on : List Kd) : Except Int Kd :=
  if p.kind = 1 then .ok (if p.t = 0 then ⟨0, p.n, p.n⟩ else kT p.t)
  else if p.kind = 2 then (match findV vs p.s (false, false) with
    | .error e => Except.error e
    | .ok v => .ok (kT v.ty))
  else if p.kind = 3 then (match findV vs p.s (true, false) with
    | .error e => Except.error e
    | .ok v => if kAmong (on.headD (kT 0)) [2] ≠ 0 then .error (kAmong (on.headD (kT 0)) [2]) else .ok (kT v.ty))
  else if p.kind = 4 then (match findV vs p.s (false, true) with
    | .error e => Except.error e
    | .ok v => match fldV v p.f with
      | none => Except.error 91
      | some r => .ok (kT r.2.1))
  else if p.kind = 6 then (if kAmong (on.headD (kT 0)) [2, 4] ≠ 0 then .error (kAmong (on.headD (kT 0)) [2, 4]) else .ok (kT p.t))
  else opK p.n (on.headD (kT 0)) (on.getLastD (kT 0))
/-- the kind of an expression that may be -/
def kindP (vs : List Vr) (x : List Pt) : Except Int Kd :=
  match mRun (partK vs) x [] with
  | .error e => Except.error e
  | .ok st => if (st.headD (kT 0)).typ = 0 ∧ kFits (st.headD (kT 0)) 3 ≠ 0 then .error 1 else .ok (st.headD (kT 0))
/-- which types and directions there are -/
def tyW (t : Int) : Bool := (decide (1 ≤ t) && decide (t ≤ 4)) || (decide (101 ≤ t) && decide (t ≤ 110))
def single (v : Vr) : Bool := decide (v.len = 0) && fit6 v.ty 0
def varB (v : Vr) : Bool :=
  nameB v.name && (tyW v.ty && ((decide (0 ≤ v.dir) && decide (v.dir ≤ 2)) && ((decide (v.len = 0) || (decide (0 < v.len) && (decide (v.len ≤ 32) && fit6 v.ty 0))) &&
    ((if single v then fit6 v.ty v.init && (decide (v.ty ≠ 4) || decide (0 ≤ v.init)) else decide (v.init = 0)) && (decide (v.dir = 0) || single v)))))
def mayV (vs : List Vr) : Int := if vs.all varB = false then 80 else if 64 < vs.length then 2 else 0
/-- typed.asked -/
def askP (vs : List Vr) (x : List Pt) : Except Int Kd :=
  if mayV vs ≠ 0 then .error (mayV vs) else if checkP x ≠ 0 then .error (checkP x) else kindP vs x
def fitsP (vs : List Vr) (x : List Pt) (t : Int) : Int := match askP vs x with
  | .error e => e
  | .ok k => kFits k t
end Go.Proofs.YtldjiieckddhkaaGreatDoor
namespace Go.Proofs.YtldjiieckddhkaaGreatDoor
/-- all numbers take the type -/
def give1 (t : Int) (p : Pt) : Pt := if p.kind = 1 then ⟨p.kind, p.s, p.f, p.n, t⟩ else p
def giveP (t : Int) (ps : List Pt) : List Pt := ps.map (give1 t)
/-- for which type an index is asked -/
def idxT (ps : List Pt) : Int := if ps.all (fun p => !(decide (p.kind = 1)) || fit6 2 p.n) then 2 else 3
def maxT : List Int → Int
  | [] => 0
  | [a] => a
  | a :: r => max a (maxT r)
/-- for which type a part asks a value that has none yet -/
def askT (p : Pt) (of : List Int) (made : Int) (ps : List Pt) : Int :=
  if p.kind = 3 then idxT ps else if p.kind = 6 then 3 else if made = 0 then 0 else if maxT of = 0 then 3 else maxT of
/-- a value: its kind, its parts with the types that they have as yet -/
structure Vl where
  k : Kd
  ps : List Pt
def resV (p : Pt) (of : List Int) (made : Int) (v : Vl) : List Pt := if v.k.typ = 0 then giveP (askT p of made v.ps) v.ps else v.ps
def partR (vs : List Vr) (p : Pt) (on : List Vl) : Except Int Vl :=
  match partK vs p (on.map (·.k)) with
  | .error e => .error e
  | .ok k => .ok ⟨k, (on.map (resV p (on.map (·.k.typ)) k.typ)).flatten ++ [p]⟩
def endR (t : Int) (v : Vl) : List Pt := if v.k.typ = 0 then giveP t v.ps else v.ps
/-- resolved, of an expression that fits -/
def resP (vs : List Vr) (x : List Pt) (t : Int) : List Pt := match mRun (partR vs) x [] with
  | .error _ => []
  | .ok st => match st with
    | [] => []
    | v :: _ => endR t v
/-- fold.Resolve -/
def resolveP (vs : List Vr) (x : List Pt) (t : Int) : List Pt × Int := if fitsP vs x t ≠ 0 then ([], fitsP vs x t) else (resP vs x t, 0)
/-- what a part makes of numbers: (number, is it one) -/
def reckP (p : Pt) (on : List Pt) : Option Pt :=
  if on.any (fun a => decide (a.kind ≠ 1)) then none
  else if p.kind = 6 then (match on with
    | a :: _ => if (Four.convN a.t p.t a.n).2 = 0 then some (numP (Four.convN a.t p.t a.n).1 p.t) else none
    | [] => none)
  else if p.kind = 5 then (match on with
    | [a] => if (Four.oneN p.n a.t a.n).2 = 0 then some (numP (Four.oneN p.n a.t a.n).1 (Four.resN p.n a.t).1) else none
    | a :: b :: _ => if (Four.twoN p.n a.t a.n b.n).2 = 0 then some (numP (Four.twoN p.n a.t a.n b.n).1 (Four.resN p.n a.t).1) else none
    | [] => none)
  else none
/-- one part, folded, as the program does it -/
def foldS (out : List Pt) (p : Pt) : List Pt := match reckP p (out.drop (out.length - takes p)) with
  | some q => out.take (out.length - takes p) ++ [q]
  | none => out ++ [p]
def foldP (x : List Pt) : List Pt := x.foldl foldS []
def foldAll (vs : List Vr) (x : List Pt) (t : Int) : List Pt × Int := if (resolveP vs x t).2 ≠ 0 then ([], (resolveP vs x t).2) else (foldP (resolveP vs x t).1, 0)
/-- fold.Value -/
def valueP (x : List Pt) (t : Int) : Int × Int :=
  if checkP x ≠ 0 then (0, checkP x) else if namesP x ≠ [] then (0, 90)
  else if (foldAll [] x t).2 ≠ 0 then (0, (foldAll [] x t).2) else if 1 < (foldAll [] x t).1.length then (0, 41) else (((foldAll [] x t).1.headD (numP 0 0)).n, 0)
/-- a value folded, as a tree's: its parts -/
def segF (p : Pt) (on : List (List Pt)) : List Pt :=
  if on.all (fun s => decide (s.length = 1)) then (match reckP p on.flatten with
    | some q => [q]
    | none => on.flatten ++ [p])
  else on.flatten ++ [p]
def partF (p : Pt) (on : List (List Pt)) : Except Int (List Pt) := .ok (segF p on)
/-- a part of an expression in whose folded form a number is alone -/
def Sg (s : List Pt) : Prop := s ≠ [] ∧ ∀ q, s.getLast? = some q → q.kind = 1 → s = [q]
theorem reck_num {p q : Pt} {on : List Pt} (h : reckP p on = some q) : q.kind = 1 := by
  unfold reckP at h
  split at h
  · exact absurd h (by simp)
  split at h
  · split at h
    · split at h
      · rw [← Option.some.inj h]; rfl
      · exact absurd h (by simp)
    · exact absurd h (by simp)
  split at h
  · split at h
    · split at h
      · rw [← Option.some.inj h]; rfl
      · exact absurd h (by simp)
    · split at h
      · rw [← Option.some.inj h]; rfl
      · exact absurd h (by simp)
    · exact absurd h (by simp)
  · exact absurd h (by simp)
theorem sg_seg {p : Pt} (on : List (List Pt)) (hp : p.kind = 1 → on = []) : Sg (segF p on) := by
  unfold segF
  split
  · split
    · exact ⟨by simp, fun q hq _ => by rw [List.getLast?_singleton] at hq; rw [Option.some.inj hq]⟩
    · refine ⟨by simp, fun q hq h1 => ?_⟩
      rw [List.getLast?_append, List.getLast?_singleton] at hq
      obtain rfl : p = q := by simpa using hq
      rw [hp h1]; rfl
  · refine ⟨by simp, fun q hq h1 => ?_⟩
    rw [List.getLast?_append, List.getLast?_singleton] at hq
    obtain rfl : p = q := by simpa using hq
    rw [hp h1]; rfl
/-- if as many parts as there are values ahead are all numbers, they are these values -/
theorem nums_alone : ∀ (n : Nat) (segs : List (List Pt)), n ≤ segs.length → (∀ s ∈ segs, Sg s) →
    (∀ a ∈ segs.flatten.drop (segs.flatten.length - n), a.kind = 1) → ∀ s ∈ segs.drop (segs.length - n), s.length = 1
  | 0, segs, _, _, _ => by simp
  | n + 1, segs, hn, hs, hk => by
    rcases List.eq_nil_or_concat segs with rfl | ⟨r, s, rfl⟩
    · simp at hn
    rw [List.concat_eq_append] at *
    have hS := hs s (by simp)
    obtain ⟨q, hq⟩ : ∃ q, s.getLast? = some q := by
      cases h : s.getLast? with
      | none => exact absurd (List.getLast?_eq_none_iff.1 h) hS.1
      | some q => exact ⟨q, rfl⟩
    have hfl : (r ++ [s]).flatten = r.flatten ++ s := by simp
    rw [hfl] at hk
    have hqm : q ∈ (r.flatten ++ s).drop ((r.flatten ++ s).length - (n + 1)) := by
      have hl : ((r.flatten ++ s).drop ((r.flatten ++ s).length - (n + 1))).getLast? = some q := by
        rw [List.getLast?_drop, if_neg (by have : 0 < s.length := List.length_pos_iff.2 hS.1; rw [List.length_append]; omega), List.getLast?_append, hq]; rfl
      exact List.mem_of_getLast? hl
    have h1 := hS.2 q hq (hk q hqm)
    have hlen : (r ++ [s]).length - (n + 1) = r.length - n := by rw [List.length_append]; show r.length + 1 - (n + 1) = _; omega
    rw [hlen]
    have hn' : n ≤ r.length := by rw [List.length_append] at hn; simpa using hn
    rw [List.drop_append_of_le_length (by omega)]
    have ih := nums_alone n r hn' (fun s' h' => hs s' (by simp [h'])) (fun a ha => hk a (by
      have e : (r.flatten ++ s).length - (n + 1) = r.flatten.length - n := by rw [List.length_append, h1]; show r.flatten.length + 1 - (n + 1) = _; omega
      rw [e, List.drop_append_of_le_length (by omega)]
      exact List.mem_append_left _ ha))
    intro s' h'
    rcases List.mem_append.1 h' with h' | h'
    · exact ih s' h'
    · rw [List.mem_singleton.1 h', h1]; rfl
theorem flat_len1 : ∀ (segs : List (List Pt)), (∀ s ∈ segs, s.length = 1) → segs.flatten.length = segs.length
  | [], _ => rfl
  | s :: r, h => by rw [List.flatten_cons, List.length_append, h s (by simp), flat_len1 r (fun s' h' => h s' (by simp [h'])), List.length_cons]; omega
theorem reck_all {p q : Pt} {on : List Pt} (h : reckP p on = some q) : ∀ a ∈ on, a.kind = 1 := fun a ha => by
  unfold reckP at h
  split at h
  · exact absurd h (by simp)
  · rename_i hn
    by_cases e : a.kind = 1
    · exact e
    · exact absurd (List.any_eq_true.2 ⟨a, ha, by simpa using e⟩) hn
/-- the program's step on the parts is the step on the values -/
theorem fold_step (p : Pt) (segs : List (List Pt)) (hs : ∀ s ∈ segs, Sg s) (hn : takes p ≤ segs.length) :
    foldS segs.flatten p = (segs.take (segs.length - takes p)).flatten ++ segF p (segs.drop (segs.length - takes p)) := by
  have hsplit : segs.flatten = (segs.take (segs.length - takes p)).flatten ++ (segs.drop (segs.length - takes p)).flatten := by
    rw [← List.flatten_append, List.take_append_drop]
  have hdl : (segs.drop (segs.length - takes p)).length = takes p := by rw [List.length_drop]; omega
  by_cases hall : ∀ s ∈ segs.drop (segs.length - takes p), s.length = 1
  · have hfl := flat_len1 _ hall
    have hd : segs.flatten.drop (segs.flatten.length - takes p) = (segs.drop (segs.length - takes p)).flatten := by
      conv => lhs; rw [hsplit]
      rw [List.drop_left']
      rw [List.length_append, hfl, hdl]; omega
    have ht : segs.flatten.take (segs.flatten.length - takes p) = (segs.take (segs.length - takes p)).flatten := by
      conv => lhs; rw [hsplit]
      rw [List.take_left']
      rw [List.length_append, hfl, hdl]; omega
    unfold foldS segF
    rw [hd, ht, if_pos (by rw [List.all_eq_true]; exact fun s h => decide_eq_true (hall s h))]
    split
    · rfl
    · rw [← List.append_assoc, ← hsplit]
  · have hno : reckP p (segs.flatten.drop (segs.flatten.length - takes p)) = none := by
      cases h : reckP p (segs.flatten.drop (segs.flatten.length - takes p)) with
      | none => rfl
      | some q => exact absurd (nums_alone (takes p) segs hn hs (reck_all h)) hall
    unfold foldS segF
    rw [hno, if_neg (by rw [List.all_eq_true]; exact fun h => hall fun s hs' => of_decide_eq_true (h s hs')), ← List.append_assoc, ← hsplit]
theorem fold_run : ∀ (x : List Pt) (segs segs' : List (List Pt)), Wf x segs.length → (∀ s ∈ segs, Sg s) → mRun partF x segs = .ok segs' → x.foldl foldS segs.flatten = segs'.flatten ∧ ∀ s ∈ segs', Sg s
  | [], segs, segs', _, hs, h => by obtain rfl := Except.ok.inj (show Except.ok (ε := Int) segs = .ok segs' from h); exact ⟨rfl, hs⟩
  | p :: x, segs, segs', hw, hs, h => by
    have e : mStep partF p segs = .ok (segs.take (segs.length - takes p) ++ [segF p (segs.drop (segs.length - takes p))]) := rfl
    have h' : (match mStep partF p segs with | .error e => Except.error e | .ok s1 => mRun partF x s1) = .ok segs' := h
    rw [e] at h'
    have hs1 : ∀ s ∈ segs.take (segs.length - takes p) ++ [segF p (segs.drop (segs.length - takes p))], Sg s := fun s h => by
      rcases List.mem_append.1 h with h | h
      · exact hs s (List.mem_of_mem_take h)
      · rw [List.mem_singleton.1 h]
        refine sg_seg _ fun h1 => ?_
        have : takes p = 0 := by unfold takes; rw [h1]; rfl
        rw [this, Nat.sub_zero, List.drop_length]
    have := fold_run x _ segs' (by rw [step_len e hw.1]; exact hw.2) hs1 h'
    rw [List.flatten_append, List.flatten_singleton, ← fold_step p segs hs hw.1] at this
    exact this
/-- folded, as a tree -/
def foldT (e : Ex) : List Pt := match evT partF e with
  | .ok s => s
  | .error _ => []
theorem evF_ok : ∀ e : Ex, ∃ s, evT partF e = .ok s
  | .leaf p => ⟨_, rfl⟩
  | .one p e => by
    obtain ⟨s, h⟩ := evF_ok e
    exact ⟨segF p [s], by rw [evT_one, h]; rfl⟩
  | .two p a b => by
    obtain ⟨s, h⟩ := evF_ok a
    obtain ⟨s', h'⟩ := evF_ok b
    exact ⟨segF p [s, s'], by rw [evT_two, h, h']; rfl⟩
theorem foldT_leaf (p : Pt) : foldT (.leaf p) = segF p [] := rfl
theorem foldT_one (p : Pt) (e : Ex) : foldT (.one p e) = segF p [foldT e] := by
  obtain ⟨s, h⟩ := evF_ok e
  have : evT partF (.one p e) = .ok (segF p [s]) := by rw [evT_one, h]; rfl
  unfold foldT; rw [this, h]
theorem foldT_two (p : Pt) (a b : Ex) : foldT (.two p a b) = segF p [foldT a, foldT b] := by
  obtain ⟨s, h⟩ := evF_ok a
  obtain ⟨s', h'⟩ := evF_ok b
  have : evT partF (.two p a b) = .ok (segF p [s, s']) := by rw [evT_two, h, h']; rfl
  unfold foldT; rw [this, h, h']
theorem foldP_tree {e : Ex} (h : well e) : foldP (flat e) = foldT e := by
  obtain ⟨s, hs⟩ := evF_ok e
  have hr := run_tree partF h
  rw [hs] at hr
  have := (fold_run (flat e) [] [s] (wf_tree h) (by simp) hr).1
  unfold foldP foldT
  rw [hs]
  simpa using this
end Go.Proofs.YtldjiieckddhkaaGreatDoor
